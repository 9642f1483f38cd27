/-
  What readDrops of the program does.
-/
import Derived.Test.YtephjmlcbpfnaaaGreatDoorPart15
import Derived.Test.YtephjmlcbpfnaaaGreatDoorOwnStr
import Derived.Test.YtephjmlcbpfnaaaGreatDoorPart5
import Derived.Test.YtephjmlcbpfnaaaGreatDoorPart14
import Derived.Test.YtephjmlcbpfnaaaGreatDoorPart6
import Derived.Test.YtephjmlcbpfnaaaGreatDoorPart7
import Derived.Test.YtephjmlcbpfnaaaGreatDoorPart9
import Derived.Maps.OwnOps
import Derived.Deep.RegionLaw
import Derived.Deep.RegionHeldLaw
namespace Go.Proofs.YtephjmlcbpfnaaaGreatDoor
open Go.RowKit

theorem M.hidD {p : Prop} (h : p) : Hid p := h
theorem M.dropsT_yes {s : ByteArray} {m a : Nat} {t : ByteArray} {b : Nat} {acc : List ByteArray} (h : M.txt3 s (a : Int) = (t, (b : Int), 0)) :
    (M.dropsT s (m + 1) a).map (fun r => (acc ++ r.1, r.2)) = (M.dropsT s m b).map fun r => ((acc ++ [t]) ++ r.1, r.2) := by
  rw [M.dropsT, h, if_pos rfl]
  simp only [Int.toNat_natCast, Option.map_map]
  congr 1
  funext r
  simp
theorem M.dropsT_no {s : ByteArray} {m a : Nat} (h : (M.txt3 s (a : Int)).2.2 ≠ 0) : M.dropsT s (m + 1) a = none := by rw [M.dropsT, if_neg h]

/-- What readDrops tells. -/
def M.DropsOut (s : ByteArray) (base : Nat) (e : Ending) (w' : World) : Prop :=
  (M.headT s = none ∧ ∃ c : Nat, c ≠ 0 ∧ e = .returned (.tuple #[.slice none 0 0, .int .i64 0, M.errV c]))
  ∨ ∃ (ss : List ByteArray) (a : Nat) (v : Value), M.headT s = some (ss, a) ∧ e = .returned (.tuple #[v, .int .i64 a, .nilIface]) ∧ M.OwnS w' base v ss

set_option maxRecDepth 100000 in
set_option maxHeartbeats 1600000 in
theorem readDrops_any (s : ByteArray) (w : World) (hs : s.size ≤ 20000) :
    Calls Tryz.prog 45 #[.string s] w fun e w' => M.DropsOut s w.heap.size e w' ∧ Below w.heap.size w w' := by
  have hR := fun W => readNum_any s 0 W (by unfold maxLen; omega) (by omega) (by omega)
  have hok := @M.num3_ok s 0
  have hh : M.headT s = if (M.num3 s 0).2.2 = 0 ∧ 0 ≤ (M.num3 s 0).1 ∧ (M.num3 s 0).1 ≤ 40 then M.dropsT s (M.num3 s 0).1.toNat (M.num3 s 0).2.1.toNat else none := rfl
  revert hR hok hh
  generalize (M.num3 s 0).1 = n, (M.num3 s 0).2.1 = a0, (M.num3 s 0).2.2 = c
  intro hR hok hh
  obtain ⟨i0, hi, hz0, hz1, hz2⟩ := info_parts Tryz.infoTx
  have HR := M.hidD hR
  have HH := M.hidD hh
  have HOK := M.hidD hok
  clear hR hh hok
  by_cases hc : c = 0
  case neg =>
    have HN : Hid (M.headT s = none) := by show _ = _; rw [HH.out, if_neg (by omega)]
    have HC := M.hidD hc
    have HV := M.hidD (M.errV_no hc)
    go_enter Tryz.func45, Tryz.ntmps45
    go_wp2_with fail
    refine (HR.out _).mono ?_
    rintro e w1 ⟨rfl, rfl⟩
    rw [HV.out]
    go_wp2
    go_ret3
    exact ⟨.inl ⟨HN.out, c, HC.out, by rw [HV.out]; rfl⟩, Below.refl _ _⟩
  subst hc
  obtain ⟨b1, b2, b3, b4, -⟩ := HOK.out rfl
  rw [M.errV_ok] at HR
  obtain ⟨a0, rfl⟩ := Int.eq_ofNat_of_zero_le b1
  clear HOK
  by_cases hn : 0 ≤ n ∧ n ≤ 40
  case neg =>
    have HN : Hid (M.headT s = none) := by show _ = _; rw [HH.out, if_neg (fun h => hn h.2)]
    have HV := M.hidD (M.errV_no (c := 3) (by decide))
    clear HH
    go_enter Tryz.func45, Tryz.ntmps45
    go_wp2_with fail
    refine (HR.out _).mono ?_
    rintro e w1 ⟨rfl, rfl⟩
    by_cases hn0 : n < 0
    · have d1 : decide (n < 0) = true := decide_eq_true hn0
      go_wp2
      go_ret3
      exact ⟨.inl ⟨HN.out, 3, by decide, by rw [HV.out]; rfl⟩, Below.refl _ _⟩
    · have d1 : decide (n < 0) = false := decide_eq_false hn0
      have d2 : decide (40 < n) = true := decide_eq_true (by omega)
      go_wp2
      go_ret3
      exact ⟨.inl ⟨HN.out, 3, by decide, by rw [HV.out]; rfl⟩, Below.refl _ _⟩
  obtain ⟨n, rfl⟩ := Int.eq_ofNat_of_zero_le hn.1
  have hn40 : n ≤ 40 := by omega
  have ha0 : a0 ≤ s.size := by omega
  have HT : Hid (M.headT s = M.dropsT s n a0) := by show _ = _; rw [HH.out, if_pos ⟨rfl, hn⟩, Int.toNat_natCast, Int.toNat_natCast]
  clear HH hn b1 b2 b3 b4
  go_enter Tryz.func45, Tryz.ntmps45
  go_wp2_with fail
  refine (HR.out _).mono ?_
  rintro e w1 ⟨rfl, rfl⟩
  clear HR
  go_wp2
  go_loopw [6, 8, 30] (fun x v i wr => ∃ (k a : Nat) (acc : List ByteArray), x = .int .i64 a ∧ i = .int .i64 k ∧ k ≤ n ∧ a ≤ s.size ∧ acc.length = k ∧ Hid (M.headT s = (M.dropsT s (n - k) a).map fun r => (acc ++ r.1, r.2)) ∧ Hid (M.OwnS wr w.heap.size v acc) ∧ Hid (Below w.heap.size w wr)) (fun _ _ i _ => n - (intOf i).toNat)
  case atStart => exact ⟨0, a0, [], rfl, rfl, Nat.zero_le _, ha0, rfl, (show _ = _ by rw [HT.out]; simp), M.OwnS.nil _ _, Below.refl _ _⟩
  case round =>
    obtain ⟨k, a, acc, rfl, rfl, hk, ha, hac, HA, HO, HBr⟩ := hrel
    by_cases hlt : k < n
    · have hRT := fun W => readText_any s (a : Int) W (by unfold maxLen; omega) (by omega) (by omega)
      have hno := @M.dropsT_no s (n - (k + 1)) a
      have hyes := fun t b => @M.dropsT_yes s (n - (k + 1)) a t b acc
      have hcan := @M.txt_canon s a
      obtain ⟨m, hm⟩ : ∃ m, m = n - (k + 1) := ⟨_, rfl⟩
      have hm1 : n - k = m + 1 := by omega
      rw [← hm] at hno hyes
      rw [hm1] at HA
      revert hRT hno hyes hcan
      generalize M.txt3 s (a : Int) = T
      obtain ⟨t, b, c⟩ := T
      intro hRT hcan hyes hno
      simp only at hRT hno hcan
      have HRT := M.hidD hRT
      have HNO := M.hidD hno
      have HYES := M.hidD hyes
      have HCAN := M.hidD hcan
      clear hRT hno hyes hcan
      by_cases hc : c = 0
      · subst hc
        rw [M.errV_ok] at HRT
        obtain ⟨-, c1, c2, c3, -⟩ := HCAN.out rfl
        obtain ⟨b, rfl⟩ := Int.eq_ofNat_of_zero_le c1
        have HA2 : Hid (M.headT s = (M.dropsT s (n - (k + 1)) b).map fun r => ((acc ++ [t]) ++ r.1, r.2)) := by show _ = _; rw [← hm, HA.out, HYES.out t b rfl]
        clear HNO HYES HCAN
        go_wp2_with fail
        refine (HRT.out _).mono ?_
        rintro e w5 ⟨rfl, hb5⟩
        have O5 := HO.out.below hb5
        have B5 := HBr.out.trans (hb5.mono HBr.out.size)
        have hsz5 := B5.size
        clear hb5 HRT
        go_wp2_with (at_builtin; refine wpList_append_own _ rfl (.tmp 42) (.tmp 44) 22 rfl w.heap.size 9 i0 (.string ⟨#[]⟩) 1 16 Tryz.underlying22 hi hz0 hz1 hz2 rfl (by decide) _ _ _ rfl (World.ownsRow.alloc O5 _) ⟨w5.heap.size, 0, none⟩ 1 1 [.string t] rfl rfl (M.one_n _ _ _) ?c2 ?c3 ?c4 ?c5 ?_)
        case c2 => exact M.oneCellS t
        case c3 => unfold maxLen; omega
        case c4 => omega
        case c5 => simp; omega
        intro v' w6 hown' hgrow _
        have HO6 : Hid (M.OwnS w6 w.heap.size v' (acc ++ [t])) := by rw [← hac] at hown'; exact M.OwnS.more hown'
        have hgall : w5.grownBy w6 _ := ((World.grownBy_alloc w5 _ none).but _).trans hgrow
        have HB6 : Hid (Below w.heap.size w w6) := B5.grown hgall B5.size (fun j hj => (World.ownsRow.lt O5 j hj).1)
        have hl2 : (acc ++ [t]).length = k + 1 := by rw [List.length_append, hac]; rfl
        clear hown' hgrow hgall O5 B5 hsz5
        go_wp2
        go_roundw
        case rel => exact ⟨k + 1, b, acc ++ [t], rfl, by go_num, by omega, by omega, hl2, HA2, HO6, HB6⟩
        case measure => simp [intOf]; omega
      · have HN : Hid (M.headT s = none) := by show _ = _; rw [HA.out, HNO.out hc]; rfl
        have HC := M.hidD hc
        have HV := M.hidD (M.errV_no hc)
        clear HNO HYES HCAN HA
        go_wp2_with fail
        refine (HRT.out _).mono ?_
        rintro e w5 ⟨rfl, hb5⟩
        have B5 := M.hidD (HBr.out.trans (hb5.mono HBr.out.size))
        clear hb5 HRT
        rw [HV.out]
        go_wp2
        go_ret3
        exact ⟨.inl ⟨HN.out, c, HC.out, by rw [HV.out]; rfl⟩, B5.out⟩
    · obtain rfl : k = n := by omega
      have HF : Hid (M.headT s = some (acc, a)) := by show _ = _; rw [HA.out, Nat.sub_self, M.dropsT]; simp
      clear HA HT
      go_wp2
      go_ret3
      exact ⟨.inr ⟨acc, a, _, HF.out, rfl, HO.out⟩, HBr.out⟩
end Go.Proofs.YtephjmlcbpfnaaaGreatDoor

/-
  What pathsRise, touchedBy and DeltaRight of the program do.
-/
namespace Go.Proofs.YtephjmlcbpfnaaaGreatDoor
open Go.RowKit Go.Maps

theorem M.hide {p : Prop} (h : p) : Hid p := h
theorem M.se {a w v : World} (h : Below a.heap.size a w) (h' : Below w.heap.size w v) : Below a.heap.size a v := h.trans (h'.mono h.size)

set_option maxRecDepth 100000 in
set_option maxHeartbeats 3200000 in
theorem iPRise_any (w : World) (a : Option Addr) (len cap : Nat) (ss : List ByteArray) (h : M.Strs w a len cap ss) (hok : ∀ s ∈ ss, s.size ≤ maxLen) (hm : M.ml w) :
    Calls Tryz.prog 56 #[.slice a len cap] w fun e w' => ∃ v : Bool, e = .returned (.bool v) ∧ (v = true ↔ M.PRise ss ss.length) ∧ Below w.heap.size w w' := by
  have hlm : len ≤ 9223372036854775807 := by obtain ⟨_, h1, h2, _⟩ := h; unfold maxLen at h2; omega
  have HFL : Hid (len = ss.length) := h.1
  have HF : Hid (M.Strs w a len cap ss) := h
  have HOK : Hid (∀ s ∈ ss, s.size ≤ maxLen) := hok
  have HM : Hid (M.ml w) := hm
  clear h hok hm
  have NO : Hid (∀ (W : World), ¬ M.PRise ss ss.length → Below w.heap.size w W → ∃ v : Bool, Ending.returned (.bool false) = .returned (.bool v) ∧ (v = true ↔ M.PRise ss ss.length) ∧ Below w.heap.size w W) := fun W hn hb => ⟨false, rfl, ⟨fun h => by simp at h, fun h => absurd h hn⟩, hb⟩
  go_enter Tryz.func56, Tryz.ntmps56
  go_wp2
  go_loopw [7] (fun i wr => ∃ k : Nat, i = .int .i64 k ∧ k ≤ len ∧ Hid (M.PRise ss k) ∧ Hid (Below w.heap.size w wr)) (fun i _ => len - (intOf i).toNat)
  case atStart => exact ⟨0, rfl, Nat.zero_le _, M.PRise.zero ss, Below.refl _ _⟩
  case round =>
    obtain ⟨k, rfl, hk, HG, HBr⟩ := hrel
    by_cases hlt : k < len
    · have hfl := HFL.out
      obtain ⟨-, -, -, hfa⟩ := HF.out.below HBr.out
      obtain ⟨b, off, rfl, hat⟩ := hfa (by omega)
      have HAT : Hid (M.StrsAt wr b off ss) := hat
      have c0 := hat k (by omega)
      have hfk := List.getElem?_eq_getElem (l := ss) (i := k) (by omega)
      generalize ss[k]'(by omega) = s at c0 hfk
      have HFK : Hid (ss[k]? = some s) := hfk
      have hC := iPath_any s wr (HOK.out s (List.mem_of_getElem? hfk)) (M.ml_below HM.out HBr.out)
      clear hfk hat hfa hfl
      cases hr : M.pathR s
      · rw [hr] at hC
        have HC := M.hide hC
        have HN : Hid (¬ M.PRise ss ss.length) := fun h => by have := h.pathAt HFK.out; rw [hr] at this; cases this
        clear hC hr
        go_wp2_with fail
        refine HC.out.mono ?_
        rintro e w1 ⟨rfl, hb1⟩
        have B1 : Hid (Below w.heap.size w w1) := M.se HBr.out hb1
        clear hb1
        go_wp2
        go_ret
        exact NO.out _ HN.out B1.out
      · rw [hr] at hC
        have HC := M.hide hC
        have HR := M.hide hr
        clear hC hr
        by_cases h0 : 0 < k
        case neg =>
          have HN : Hid (M.PRise ss (k + 1)) := HG.out.next HFK.out HR.out (fun _ h => absurd h h0)
          have d0 : decide (0 < k) = false := decide_eq_false h0
          go_wp2_with fail
          refine HC.out.mono ?_
          rintro e w1 ⟨rfl, hb1⟩
          have B1 : Hid (Below w.heap.size w w1) := M.se HBr.out hb1
          clear hb1
          go_wp2
          go_roundw
          case rel => exact ⟨k + 1, by go_num, by omega, HN, B1⟩
          case measure => simp [intOf]; omega
        obtain ⟨j, hj0⟩ : ∃ j, k = j + 1 := ⟨k - 1, by omega⟩
        have HJ : Hid (k = j + 1) := hj0
        have hj : (k : Int) - 1 = (j : Int) := by omega
        have hjl : (j : Int) < (len : Int) := by omega
        have d0 : decide (0 < k) = true := decide_eq_true h0
        have hjf : j < ss.length := by have := HFL.out; omega
        have hgj := List.getElem?_eq_getElem (l := ss) (i := j) hjf
        have cj := HAT.out j hjf
        generalize ss[j]'hjf = g at cj hgj
        have HGJ := M.hide hgj
        have HCJ := M.hide cj
        clear hj0 hgj hjf h0 cj
        by_cases hlt2 : M.ltB g s
        · have HN : Hid (M.PRise ss (k + 1)) := HG.out.next HFK.out HR.out (fun g' _ hg' => by
            rw [HJ.out, Nat.add_sub_cancel, HGJ.out] at hg'
            obtain rfl := Option.some.inj hg'
            exact hlt2)
          have hbl := M.less_yes hlt2
          clear hlt2
          go_wp2_with fail
          refine HC.out.mono ?_
          rintro e w1 ⟨rfl, hb1⟩
          have B1 : Hid (Below w.heap.size w w1) := M.se HBr.out hb1
          have cj : w1.cell? ⟨b, off + j, none⟩ = some (.string g) := (hb1.cell (World.block_lt_of_cell? wr _ HCJ.out)).trans HCJ.out
          clear hb1
          go_wp2
          go_roundw
          case rel => exact ⟨k + 1, by go_num, by omega, HN, B1⟩
          case measure => simp [intOf]; omega
        · have HN : Hid (¬ M.PRise ss ss.length) := fun h => hlt2 (h.riseAt (k := j) (by rw [← HJ.out]; exact HFK.out) HGJ.out)
          have hbl := M.less_no hlt2
          clear hlt2
          go_wp2_with fail
          refine HC.out.mono ?_
          rintro e w1 ⟨rfl, hb1⟩
          have B1 : Hid (Below w.heap.size w w1) := M.se HBr.out hb1
          have cj : w1.cell? ⟨b, off + j, none⟩ = some (.string g) := (hb1.cell (World.block_lt_of_cell? wr _ HCJ.out)).trans HCJ.out
          clear hb1
          go_wp2
          go_ret
          exact NO.out _ HN.out B1.out
    · have HT : Hid (M.PRise ss ss.length) := by
        have hfl := HFL.out
        have : k = ss.length := by omega
        subst this
        exact HG.out
      go_wp2
      go_ret
      exact ⟨true, rfl, ⟨fun _ => HT.out, fun _ => rfl⟩, HBr.out⟩

theorem M.keyT : Keyed Tryz.prog 9 := string_keyed Tryz.underlying9
theorem run_makeMapU (n : Int) (w : World) : (Instr.makeMap 48 (some (.int .i64 n))).run Tryz.prog w = .ok (.map (some w.heap.size)) (w.alloc (.map #[] 0)) := by
  unfold Instr.makeMap
  simp [go_sem]

set_option maxRecDepth 100000 in
set_option maxHeartbeats 3200000 in
theorem iTouched_any (w : World) (a1 a2 : Option Addr) (n1 c1 n2 c2 : Nat) (ss : List ByteArray) (fs : List M.FileD) (h1 : M.Strs w a1 n1 c1 ss) (h2 : M.Files w a2 n2 c2 fs) (o1 : ∀ s ∈ ss, s.size ≤ maxLen) (o2 : ∀ f ∈ fs, M.fok f) (hl1 : n1 ≤ 1048576) (hl2 : n2 ≤ 1048576) :
    Calls Tryz.prog 27 #[.agg #[.slice a1 n1 c1, .slice a2 n2 c2]] w fun e w' => e = .returned (.map (some (w.heap.size + 1))) ∧ w'.ownsMap Tryz.prog 9 unitElem (w.heap.size + 1) (n1 + n2) (M.pset (ss ++ fs.map (·.path))) ∧ Below w.heap.size w w' := by
  have HN1 : Hid (n1 = ss.length) := h1.1
  have HN2 : Hid (n2 = fs.length) := h2.1
  have HS := M.hide h1
  have HF := M.hide h2
  have O1 := M.hide o1
  have O2 := M.hide o2
  have hmm := run_makeMapU
  clear h1 h2 o1 o2
  go_enter Tryz.func27, Tryz.ntmps27
  go_wp2
  go_loopw [19] (fun i wr => ∃ k : Nat, i = .int .i64 k ∧ k ≤ n1 ∧ Hid (wr.ownsMap Tryz.prog 9 unitElem (w.heap.size + 1) k (M.pset (ss.take k))) ∧ Hid (Below (w.alloc (.cells #[.slice a1 n1 c1, .slice a2 n2 c2] 29)).heap.size (w.alloc (.cells #[.slice a1 n1 c1, .slice a2 n2 c2] 29)) wr)) (fun i _ => n1 - (intOf i).toNat)
  case atStart => exact ⟨0, rfl, Nat.zero_le _, (by have := World.ownsMap_made (w.alloc (.cells #[.slice a1 n1 c1, .slice a2 n2 c2] 29)) Tryz.prog 9 (unitElem (H := Unit)); rwa [World.size_alloc] at this), (Below.refl _ _).alloc (Nat.le_refl _) _⟩
  case round =>
    obtain ⟨k, rfl, hk, HOW, HBr⟩ := hrel
    by_cases hlt : k < n1
    · have hfl := HN1.out
      obtain ⟨-, -, -, hfa⟩ := HS.out.below (M.boxed_below HBr.out)
      obtain ⟨b, off, rfl, hat⟩ := hfa (by omega)
      have c0 := hat k (by omega)
      have hfk := List.getElem?_eq_getElem (l := ss) (i := k) (by omega)
      generalize ss[k]'(by omega) = s at c0 hfk
      have HFK : Hid (ss[k]? = some s) := hfk
      have HKEY : Hid (keyOf Tryz.prog 9 (.string s) = some (M.key s)) := Go.WideMaps.keyOf_string_mk Tryz.underlying9 (O1.out s (List.mem_of_getElem? hfk))
      clear hfk hat hfa hfl
      go_wp2_with (at_mapUpdate; refine wpList_mapUpdate_own _ rfl _ _ _ 48 rfl 9 82 M.keyT Tryz.underlying48 _ (w.heap.size + 1) k _ rfl HOW.out (by unfold maxLen; omega) _ _ _ rfl rfl HKEY.out _ [] unitElem_mk ?_)
      intro w1 hown1 hgrow1
      have HO1 : Hid (w1.ownsMap Tryz.prog 9 unitElem (w.heap.size + 1) (k + 1) (M.pset (ss.take (k + 1)))) := by
        show World.ownsMap _ _ _ _ _ _ _
        rw [M.take_snocS HFK.out, M.pset_snoc]; exact hown1
      have HB1 := M.hide (HBr.out.grown hgrow1 HBr.out.size (fun j hj => by cases hj; simp))
      clear hown1 hgrow1 c0
      go_wp2
      go_roundw
      case rel => exact ⟨k + 1, by go_num, by omega, HO1, HB1⟩
      case measure => simp [intOf]; omega
    · have HO0 : Hid (wr.ownsMap Tryz.prog 9 unitElem (w.heap.size + 1) n1 (M.pset ss)) := by
        have hfl := HN1.out
        obtain rfl : k = n1 := by omega
        have := HOW.out
        rw [List.take_of_length_le (by omega)] at this
        exact this
      have g1 := M.boxed HBr.out 1 _ rfl
      have HBr0 := HBr
      obtain ⟨w0, hw0⟩ : ∃ w0, w0 = wr := ⟨_, rfl⟩
      clear HOW
      go_wp2
      go_loopw [30] (fun i wr => ∃ k : Nat, i = .int .i64 k ∧ k ≤ n2 ∧ Hid (wr.ownsMap Tryz.prog 9 unitElem (w.heap.size + 1) (n1 + k) (M.pset (ss ++ (fs.map (·.path)).take k))) ∧ Hid (Below (w.alloc (.cells #[.slice a1 n1 c1, .slice a2 n2 c2] 29)).heap.size (w.alloc (.cells #[.slice a1 n1 c1, .slice a2 n2 c2] 29)) wr)) (fun i _ => n2 - (intOf i).toNat)
      case atStart => exact ⟨0, rfl, Nat.zero_le _, M.hide (by simpa using HO0.out), HBr0⟩
      case round =>
        obtain ⟨k, rfl, hk, HOW, HBr⟩ := hrel
        by_cases hlt : k < n2
        · have hfl := HN2.out
          obtain ⟨-, -, -, hfa⟩ := HF.out.below (M.boxed_below HBr.out)
          obtain ⟨b, off, rfl, hat⟩ := hfa (by omega)
          obtain ⟨c0, c1', c2', c3, c4⟩ := hat k (by omega)
          have hfk := List.getElem?_eq_getElem (l := fs) (i := k) (by omega)
          generalize fs[k]'(by omega) = f at c0 c1' c2' c3 c4 hfk
          have HFK : Hid (fs[k]? = some f) := hfk
          have HKEY : Hid (keyOf Tryz.prog 9 (.string f.path) = some (M.key f.path)) := Go.WideMaps.keyOf_string_mk Tryz.underlying9 (O2.out f (List.mem_of_getElem? hfk)).1
          clear hfk hat hfa hfl
          go_wp2_with (at_mapUpdate; refine wpList_mapUpdate_own _ rfl _ _ _ 48 rfl 9 82 M.keyT Tryz.underlying48 _ (w.heap.size + 1) (n1 + k) _ rfl (HOW.out.alloc _) (by unfold maxLen; omega) _ _ _ rfl rfl HKEY.out _ [] unitElem_mk ?_)
          intro w1 hown1 hgrow1
          have HO1 : Hid (w1.ownsMap Tryz.prog 9 unitElem (w.heap.size + 1) (n1 + (k + 1)) (M.pset (ss ++ (fs.map (·.path)).take (k + 1)))) := by
            show World.ownsMap _ _ _ _ _ _ _
            have hk2 : (fs.map (·.path))[k]? = some f.path := by rw [List.getElem?_map, HFK.out]; rfl
            rw [M.take_snocS hk2, ← List.append_assoc, M.pset_snoc]; exact hown1
          have HB1 := M.hide ((HBr.out.alloc HBr.out.size _).grown hgrow1 (by have := HBr.out.size; simp at this ⊢; omega) (fun j hj => by cases hj; simp))
          clear hown1 hgrow1 c0 c1' c2' c3 c4
          go_wp2
          go_roundw
          case rel => exact ⟨k + 1, by go_num, by omega, HO1, HB1⟩
          case measure => simp [intOf]; omega
        · have HT : Hid (wr.ownsMap Tryz.prog 9 unitElem (w.heap.size + 1) (n1 + n2) (M.pset (ss ++ fs.map (·.path)))) := by
            have hfl := HN2.out
            obtain rfl : k = n2 := by omega
            have := HOW.out
            rw [List.take_of_length_le (by rw [List.length_map]; omega)] at this
            exact this
          go_wp2
          go_ret
          exact ⟨rfl, HT.out, M.boxed_below HBr.out⟩

/-- The length of a map, as a step of a region that draws its order. -/
theorem M.step_len {P : Program} {ops : Array Oper} {o : Oper} {a : Act} {w : World} {K : Act → World → Prop} {Q : Exit → Act → World → Prop} {E : Prop} (d : Nat) (hd : o.dst = some d) (hgd : o.guard = none) (s : Operand) (t : TypeId)
    (ho : o.op = .call { callee := .builtin .len, args := #[s], argTypes := #[t] }) (b : Nat) (v : Value) (hs : a.eval s = .map (some b)) (hr : (Builtin.len_ #[t] o.type #[.map (some b)]).run P w = .ok v w) (h : K (a.put (some d) v) w) :
    if Region.wanted o (yielded ops a.tmps) = true then Oper.wp P o a w K Q else E := by
  have hw : Region.wanted o (yielded ops a.tmps) = true := by simp [Region.wanted, hgd]
  rw [if_pos hw]
  unfold Oper.wp execOp
  simp only [ho, resolve, invoke, builtin, Sem.run_bind, Sem.run_pure, Result.andThen_ok, List.map_toArray, List.map_cons, List.map_nil, hs, hr]
  rw [← hd] at h
  exact h

set_option maxRecDepth 100000 in
set_option maxHeartbeats 3200000 in
theorem iDeltaR_any (w : World) (a1 a2 : Option Addr) (n1 c1 n2 c2 : Nat) (ss : List ByteArray) (fs : List M.FileD) (h1 : M.Strs w a1 n1 c1 ss) (h2 : M.Files w a2 n2 c2 fs) (o1 : ∀ s ∈ ss, s.size ≤ maxLen) (o2 : ∀ f ∈ fs, M.fok f) (hm : M.ml w) :
    Calls Tryz.prog 26 #[.agg #[.slice a1 n1 c1, .slice a2 n2 c2]] w fun e w' => ∃ v : Bool, e = .returned (.bool v) ∧ (v = true ↔ M.DeltaR ss fs) ∧ Below w.heap.size w w' := by
  have hlm1 : n1 ≤ 9223372036854775807 := by obtain ⟨_, h1, h2, _⟩ := h1; unfold maxLen at h2; omega
  have hlm2 : n2 ≤ 9223372036854775807 := by obtain ⟨_, h1, h2, _⟩ := h2; unfold maxLen at h2; omega
  have HN1 : Hid (n1 = ss.length) := h1.1
  have HN2 : Hid (n2 = fs.length) := h2.1
  have HS := M.hide h1
  have HF := M.hide h2
  have O1 := M.hide o1
  have O2 := M.hide o2
  have HM := M.hide hm
  have NO : Hid (∀ (W : World), ¬ M.DeltaR ss fs → Below w.heap.size w W → ∃ v : Bool, Ending.returned (.bool false) = .returned (.bool v) ∧ (v = true ↔ M.DeltaR ss fs) ∧ Below w.heap.size w W) := fun W hn hb => ⟨false, rfl, ⟨fun h => by simp at h, fun h => absurd h hn⟩, hb⟩
  have HB : Hid (∀ o, Below w.heap.size w (w.alloc o)) := fun o => (Below.refl _ _).alloc (Nat.le_refl _) _
  clear h1 h2 o1 o2 hm
  by_cases hb1 : 40 < n1
  · have HN : Hid (¬ M.DeltaR ss fs) := fun h => by have := h.len1; have := HN1.out; omega
    have d1 : decide (40 < (n1 : Int)) = true := decide_eq_true (by omega)
    go_enter Tryz.func26, Tryz.ntmps26
    go_wp2
    go_ret
    exact NO.out _ HN.out (HB.out _)
  have d1 : decide (40 < (n1 : Int)) = false := decide_eq_false (by omega)
  by_cases hb2 : 40 < n2
  · have HN : Hid (¬ M.DeltaR ss fs) := fun h => by have := h.len2; have := HN2.out; omega
    have d2 : decide (40 < (n2 : Int)) = true := decide_eq_true (by omega)
    go_enter Tryz.func26, Tryz.ntmps26
    go_wp2
    go_ret
    exact NO.out _ HN.out (HB.out _)
  have d2 : decide (40 < (n2 : Int)) = false := decide_eq_false (by omega)
  go_enter Tryz.func26, Tryz.ntmps26
  go_wp2_with fail
  refine (iPRise_any _ a1 n1 c1 ss (HS.out.below (HB.out _)) O1.out (M.ml_below HM.out (HB.out _))).mono ?_
  rintro e w1 ⟨v1, rfl, hv1, hb1'⟩
  have V1 := M.hide hv1
  have B1 := M.hide hb1'
  have B1w : Hid (Below w.heap.size w w1) := M.boxed_below hb1'
  have g1 := M.boxed hb1' 1 _ rfl
  clear hv1 hb1'
  cases v1
  · have HN : Hid (¬ M.DeltaR ss fs) := fun h => by have := V1.out.2 h.drops; cases this
    go_wp2
    go_ret
    exact NO.out _ HN.out B1w.out
  have P1 := M.hide (V1.out.1 rfl)
  go_wp2_with fail
  refine (iRise_any w1 a2 n2 c2 fs (HF.out.below B1w.out) O2.out (M.ml_below HM.out B1w.out)).mono ?_
  rintro e w2 ⟨v2, rfl, hv2, hb2'⟩
  have V2 := M.hide hv2
  have B2 := M.hide (M.se B1.out hb2')
  have B2w : Hid (Below w.heap.size w w2) := M.boxed_below B2.out
  have k0 : w2.cell? ⟨w.heap.size, 0, none⟩ = some (.slice a1 n1 c1) := M.boxed B2.out 0 _ rfl
  have k1 : w2.cell? ⟨w.heap.size, 1, none⟩ = some (.slice a2 n2 c2) := M.boxed B2.out 1 _ rfl
  clear hv2 hb2' g1 B1 B1w V1
  cases v2
  · have HN : Hid (¬ M.DeltaR ss fs) := fun h => by have := V2.out.2 h.puts; cases this
    go_wp2
    go_ret
    exact NO.out _ HN.out B2w.out
  have P2 := M.hide (V2.out.1 rfl)
  have HSZ : Hid (Maps.size (M.pset (ss ++ fs.map (·.path))) = ss.length + (fs.map (·.path)).length ↔ ∀ s ∈ ss, ∀ t ∈ fs.map (·.path), t ≠ s) := M.pset_size (P1.out.pair.imp M.ltB_ne) (List.pairwise_map.2 (P2.out.pair.imp M.ltB_ne))
  have B2d : Hid (Below w.heap.size w w2.drew) := M.se B2w.out (Below.refl _ _).drew
  clear V2
  have hwr : IntKind.i64.wrap ((n1 : Int) + (n2 : Int)) = (n1 : Int) + (n2 : Int) := by rw [IntKind.wrap_i64]; omega
  go_wp2_with fail
  go_region_held_law (fun w' => w'.cell? ⟨w.heap.size, 0, none⟩ = some (.slice a1 n1 c1) ∧ w'.cell? ⟨w.heap.size, 1, none⟩ = some (.slice a2 n2 c2)) (first | exact ⟨m0, m1⟩ | go_keep) (first | (refine M.step_len 27 rfl rfl (.tmp 26) 48 rfl _ (.int .i64 (Maps.size (M.pset (ss ++ fs.map (·.path))))) (by simp [Act.eval]) (hlen _) ?_) | (go_at_call 27; refine (iTouched_any w2.drew a1 a2 n1 c1 n2 c2 ss fs (HS.out.below B2d.out) (HF.out.below B2d.out) O1.out O2.out (by omega) (by omega)).mono ?_; rintro e w3 ⟨rfl, hown, hb3⟩; have hlen := fun ty => hown.len Tryz.underlying48 ty; have B3 := M.hide (M.se (M.se B2.out (Below.refl _ _).drew) hb3); have m0 : w3.cell? ⟨w.heap.size, 0, none⟩ = some (.slice a1 n1 c1) := M.boxed B3.out 0 _ rfl; have m1 : w3.cell? ⟨w.heap.size, 1, none⟩ = some (.slice a2 n2 c2) := M.boxed B3.out 1 _ rfl; clear hown hb3))
  have HFIN : Hid (((Maps.size (M.pset (ss ++ fs.map (·.path))) : Int) == (n1 : Int) + (n2 : Int)) = true ↔ M.DeltaR ss fs) := by
    show _ ↔ _
    have h1 := HN1.out
    have h2 := HN2.out
    have hs := HSZ.out
    rw [List.length_map] at hs
    rw [beq_iff_eq]
    constructor
    · intro h
      refine ⟨by omega, by omega, P1.out, P2.out, fun s hs' f hf => hs.1 (by omega) s hs' f.path (List.mem_map_of_mem hf)⟩
    · intro h
      have := hs.2 (fun s hs' t ht => by obtain ⟨f, hf, rfl⟩ := List.mem_map.1 ht; exact h.apart s hs' f hf)
      omega
  generalize Maps.size (M.pset (ss ++ fs.map (·.path))) = z at *
  go_wp2
  go_ret
  exact ⟨((z : Int) == (n1 : Int) + (n2 : Int)), rfl, HFIN.out, M.boxed_below B3.out⟩
end Go.Proofs.YtephjmlcbpfnaaaGreatDoor

/-
  What blocksFor, zeroBlocks, filledUp, nameIn and kindOf of the program do.
-/
namespace Go.Proofs.YtephjmlcbpfnaaaGreatDoor
open Go.RowKit

theorem M.s1i {a w v : World} (h : Below a.heap.size a w) (h' : Below w.heap.size w v) : Below a.heap.size a v := h.trans (h'.mono h.size)
theorem M.ret_int {k : IntKind} {a b : Int} (h : a = b) : Ending.returned (.int k a) = .returned (.int k b) := by rw [h]
theorem M.zer_ext (k n : Nat) (_ : n ≤ k) : (M.zerosB k).extract n k = M.zerosB (k - n) := by
  apply ByteArray.ext
  unfold M.zerosB
  rw [ByteArray.data_extract]
  apply Array.ext'
  simp
theorem M.blocks_fill (n : Nat) : (n + 511) / 512 * 512 - n = M.fillN n := by unfold M.fillN; omega

set_option maxRecDepth 100000 in
set_option maxHeartbeats 400000 in
theorem iBlocks_any (n : Nat) (w : World) (h : n ≤ 100000000000) :
    Calls Tryz.prog 117 #[.int .i64 n] w fun e w' => e = .returned (.int .i64 ((n + 511) / 512 : Nat)) ∧ w = w' := by
  go_enter Tryz.func117, Tryz.ntmps117
  go_wp2
  go_ret
  exact ⟨M.ret_int (by omega), rfl⟩

set_option maxRecDepth 100000 in
set_option maxHeartbeats 800000 in
theorem iZBlocks_any (n : Nat) (w : World) (hn : n ≤ 1000) :
    Calls Tryz.prog 74 #[.int .i64 n] w fun e w' => e = .returned (.string (M.zerosB (n * 512))) ∧ Below w.heap.size w w' := by
  obtain ⟨i0, hi, hz0, hz1, hz2⟩ := info_parts (show (Tryz.prog.info? 5).map (fun i => (i.zero, i.size, i.bytes)) = some (some (.int .u8 0), 1, 1) by kernel_rfl)
  go_enter Tryz.func74, Tryz.ntmps74
  go_wp2_with (at_make; refine wpList_make_full _ rfl _ _ 61 rfl w.heap.size 5 i0 _ 1 Tryz.underlying61 hi hz0 hz1 .i64 .i64 _ _ (n * 512) rfl rfl ?c1 ?c2 ?c3 ?c4 ?c5 ?_)
  case c1 => omega
  case c2 => omega
  case c3 => rw [hz2]; omega
  case c4 => unfold maxLen; omega
  case c5 => exact Nat.le_refl _
  intro w1 hown hgrow
  rw [M.made_zero] at hown
  have hcv := M.conv_all (M.Bytes.made hown)
  rw [List.length_replicate] at hcv
  have HW1 : Hid (Below w.heap.size w w1) := ⟨hgrow.os, hgrow.tape, hgrow.output, hgrow.size, fun k hk => hgrow.block k hk (by simp)⟩
  clear hown hgrow
  have hE : Hid ((⟨(List.replicate (n * 512) 0).toArray⟩ : ByteArray) = M.zerosB (n * 512)) := rfl
  generalize (⟨(List.replicate (n * 512) 0).toArray⟩ : ByteArray) = z at hcv hE
  go_wp2
  go_ret
  exact ⟨by rw [← hE.out]; rfl, HW1.out⟩

set_option maxRecDepth 100000 in
set_option maxHeartbeats 800000 in
theorem iFill_any (t : ByteArray) (w : World) (h : t.size ≤ 100000) :
    Calls Tryz.prog 100 #[.string t] w fun e w' => e = .returned (.string (M.fillB t)) ∧ Below w.heap.size w w' := by
  have HB : Hid (Calls Tryz.prog 117 #[.int .i64 t.size] w fun e w' => e = .returned (.int .i64 ((t.size + 511) / 512 : Nat)) ∧ w = w') := iBlocks_any t.size w (by omega)
  obtain ⟨q, hq⟩ : ∃ q, q = (t.size + 511) / 512 := ⟨_, rfl⟩
  rw [← hq] at HB
  have hq1 : q * 512 - t.size = M.fillN t.size := by rw [hq]; exact M.blocks_fill _
  have hq2 : t.size ≤ q * 512 := by rw [hq]; omega
  have hq3 : q ≤ 1000 := by rw [hq]; omega
  have HZ : Hid (Calls Tryz.prog 74 #[.int .i64 q] w fun e w' => e = .returned (.string (M.zerosB (q * 512))) ∧ Below w.heap.size w w') := iZBlocks_any q w hq3
  have hz : (M.zerosB (q * 512)).size = q * 512 := M.zerosB_size _
  have HE : Hid (t ++ (M.zerosB (q * 512)).extract t.size (q * 512) = M.fillB t) := by show _ = _; rw [M.zer_ext _ _ hq2, hq1]; rfl
  clear hq
  go_enter Tryz.func100, Tryz.ntmps100
  go_wp2_with fail
  refine HB.out.mono ?_
  rintro e w1 ⟨rfl, rfl⟩
  go_wp2_with fail
  refine HZ.out.mono ?_
  rintro e w2 ⟨rfl, hb⟩
  have HB2 : Hid (Below w.heap.size w w2) := hb
  generalize M.zerosB (q * 512) = z at hz HE ⊢
  clear hb hq1
  go_wp2
  go_ret
  exact ⟨by rw [← HE.out]; rfl, HB2.out⟩

set_option maxRecDepth 100000 in
set_option maxHeartbeats 400000 in
theorem iName_any (path : ByteArray) (dir : Bool) (m n : Int) (data : ByteArray) (w : World) (hp : path.size ≤ 150) :
    Calls Tryz.prog 96 #[.agg #[.string path, .bool dir, .int .i64 m, .int .i64 n, .string data]] w fun e w' => e = .returned (.string (M.fullB path dir)) ∧ Below w.heap.size w w' := by
  cases dir
  all_goals
    go_enter Tryz.func96, Tryz.ntmps96
    go_wp2
    go_ret
    exact ⟨rfl, (Below.refl _ _).alloc (Nat.le_refl _) _⟩
set_option maxRecDepth 100000 in
set_option maxHeartbeats 400000 in
theorem iKind_any (path : ByteArray) (dir : Bool) (m n : Int) (data : ByteArray) (w : World) :
    Calls Tryz.prog 99 #[.agg #[.string path, .bool dir, .int .i64 m, .int .i64 n, .string data]] w fun e w' => e = .returned (.int .i64 (M.kindN dir : Nat)) ∧ Below w.heap.size w w' := by
  cases dir
  all_goals
    go_enter Tryz.func99, Tryz.ntmps99
    go_wp2
    go_ret
    exact ⟨rfl, (Below.refl _ _).alloc (Nat.le_refl _) _⟩
end Go.Proofs.YtephjmlcbpfnaaaGreatDoor
