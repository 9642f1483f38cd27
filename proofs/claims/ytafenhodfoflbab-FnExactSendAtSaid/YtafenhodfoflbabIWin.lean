/-
  What windowOf and inRow of the program do.
-/
import Derived.Test.YtafenhodfoflbabWinMath
import Derived.Test.YtafenhodfoflbabOwnPkts
import Derived.Test.YtafenhodfoflbabIPktOf
import Derived.Test.YtafenhodfoflbabLinkBox
import Derived.WalkKit
import Derived.WalkSpells
import Derived.WalkLawsBesides
import Derived.Maps.Own
import Derived.Maps.OwnOps
import Derived.Maps.OwnSet
namespace Go.Proofs.Ytafenhodfoflbab
open Go.RowKit Go.Maps

theorem Try.infoPk : (Try.prog.info? 53).map (fun i => (i.zero, i.size, i.bytes)) = some (some (.agg #[.int .i64 0, .bool false, .string ⟨#[]⟩, .int .i64 0]), 4, 40) := by kernel_rfl
theorem M.keyI : Keyed Try.prog 2 := int_keyed Try.underlying2
theorem M.keyAt (n : Nat) (h : n ≤ 9223372036854775807) : keyOf Try.prog 2 (.int .i64 (n : Int)) = some (.int .i64 (n : Int)) := keyOf_int_mk Try.underlying2 (by
  have h' : IntKind.i64.min ≤ (n : Int) ∧ (n : Int) ≤ 9223372036854775807 := ⟨by show (-9223372036854775808 : Int) ≤ _; omega, by omega⟩
  simpa [Lit.wf, IntKind.wrap] using h')
theorem M.run_makeMapP (n : Int) (w : World) : (Instr.makeMap 68 (some (.int .i64 n))).run Try.prog w = .ok (.map (some w.heap.size)) (w.alloc (.map #[] 0)) := by
  unfold Instr.makeMap
  simp [go_sem]
theorem M.zeroPkt (w : World) : (zeroValue 53).run Try.prog w = .ok (.agg #[.int .i64 0, .bool false, .string ⟨#[]⟩, .int .i64 0]) w := by kernel_rfl
def M.vlenP : Value → Nat
  | .slice _ l _ => l
  | _ => 0
theorem M.map_below {w W : World} {b n : Nat} {D : DataW M.PktD} (h : w.ownsMap Try.prog 2 M.pktElem b n D) (hb : Below w.heap.size w W) : W.ownsMap Try.prog 2 M.pktElem b n D := by
  obtain ⟨es, clock, hh, hr⟩ := h
  exact ⟨es, clock, by rw [hb.block b (Array.getElem?_eq_some_iff.1 hh).1]; exact hh, hr⟩

set_option maxRecDepth 100000 in
set_option maxHeartbeats 3200000 in
theorem iWin_any (w : World) (a : Option Addr) (n c x : Nat) (ss : List ByteArray) (d t : Int) (h : M.Strs w a n c ss) (hf : M.fits ss = true) (hx : x < n) :
    Calls Try.prog 48 #[.agg #[.slice a n c, .int .i64 (x : Int), .int .i64 d, .int .i64 t]] w fun e w' => ∃ b, e = .returned (.map (some b)) ∧ w'.ownsMap Try.prog 2 M.pktElem b (min (x + 4) n - x) (M.wdat ss x (min (x + 4) n - x)) ∧ Below w.heap.size w w' := by
  have HN : Hid (n = ss.length) := h.1
  have h300 : n ≤ 300 := by have := (M.fits_iff.1 hf).1; have := h.1; omega
  have HF := M.hl h
  have HFI := M.hl hf
  have hmm := M.run_makeMapP
  obtain ⟨m, hm⟩ : ∃ m, m = min (x + 4) n - x := ⟨_, rfl⟩
  rw [← hm]
  have hm4 : m ≤ 4 := by omega
  have hxm : x + m ≤ n := by omega
  have hmin : min ((x : Int) + 4) (n : Int) = (x : Int) + (m : Int) := by omega
  have HMM := M.hl hm
  obtain ⟨E, hE⟩ : ∃ E : Nat, E = x + m := ⟨_, rfl⟩
  have hEi : (x : Int) + (m : Int) = (E : Int) := by omega
  rw [hEi] at hmin
  have HE := M.hl hE
  have hE3 : E ≤ 304 := by omega
  have hx3 : x ≤ 300 := by omega
  have CP : Hid (∀ (k : Nat) W, Below w.heap.size w W → Calls Try.prog 61 #[.slice a n c, .int .i64 (k : Int)] W fun e w' => e = .returned (M.pval (M.pof ss (k : Int))) ∧ Below W.heap.size W w') := fun k W hW => iPktOf_any W a n c ss (k : Int) (HF.out.below hW) (fun s hs => by have := (M.fits_iff.1 HFI.out).2 s hs; unfold maxLen; omega)
  unfold M.pval at CP
  clear h hf hm hE hEi hxm
  have e9 : IntKind.i64.wrap ((x : Int) + 4) = (x : Int) + 4 := by rw [IntKind.wrap_i64]; omega
  go_enter Try.func48, Try.ntmps48
  go_wp2
  go_loopw [5] (fun i wr => ∃ (k q : Nat), i = .int .i64 (q : Int) ∧ q ≤ E ∧ Hid (q = x + k) ∧ Hid (wr.ownsMap Try.prog 2 M.pktElem (w.heap.size + 1) k (M.wdat ss x k)) ∧ Hid (Below (w.alloc (.cells #[.slice a n c, .int .i64 (x : Int), .int .i64 d, .int .i64 t] 27)).heap.size (w.alloc (.cells #[.slice a n c, .int .i64 (x : Int), .int .i64 d, .int .i64 t] 27)) wr)) (fun i _ => E - (intOf i).toNat)
  case atStart => exact ⟨0, x, rfl, by have := HE.out; omega, rfl, (by have := World.ownsMap_made (w.alloc (.cells #[.slice a n c, .int .i64 (x : Int), .int .i64 d, .int .i64 t] 27)) Try.prog 2 M.pktElem; rw [World.size_alloc] at this; exact this), (Below.refl _ _).alloc (Nat.le_refl _) _⟩
  case round =>
    obtain ⟨k, q, rfl, hq, HQ, HOW, HBr⟩ := hrel
    have x0 := M.bxd HBr.out 0 (.slice a n c) rfl
    by_cases hlt : q < E
    · have HKEY := M.hl (M.keyAt q (by omega))
      have hk4 : k ≤ 4 := by have := HQ.out; have := HE.out; omega
      have CQ := M.hl (CP.out q wr (M.bxd_below HBr.out))
      obtain ⟨p, hp⟩ : ∃ p, p = M.pof ss (q : Int) := ⟨_, rfl⟩
      rw [← hp] at CQ
      have HP := M.hl hp
      clear hp
      go_wp2_with fail
      refine CQ.out.mono ?_
      rintro e w1 ⟨rfl, hb1⟩
      have O1 := M.hl (M.map_below HOW.out hb1)
      have B1 := M.hl (M.sl HBr.out hb1)
      clear hb1 CQ x0
      go_wp2_with (at_mapUpdate; refine wpList_mapUpdate_own _ rfl _ _ _ 68 rfl 2 53 M.keyI Try.underlying68 _ (w.heap.size + 1) k _ rfl O1.out (by unfold maxLen; omega) _ _ _ rfl rfl HKEY.out _ [] (M.pktElem_mk p) ?_)
      intro w2 hown2 hgrow2
      have HO2 : Hid (w2.ownsMap Try.prog 2 M.pktElem (w.heap.size + 1) (k + 1) (M.wdat ss x (k + 1))) := by
        show World.ownsMap _ _ _ _ _ _ _
        rw [M.wdat_succ, ← HQ.out, ← HP.out]; exact hown2
      have HB2 := M.hl (B1.out.grown hgrow2 B1.out.size (fun j hj => by cases hj; simp))
      clear hown2 hgrow2
      go_wp2
      go_roundw
      case rel => exact ⟨k + 1, q + 1, by go_num, by omega, by show _ = _; have := HQ.out; omega, HO2, HB2⟩
      case measure => simp [intOf]; omega
    · have HT : Hid (wr.ownsMap Try.prog 2 M.pktElem (w.heap.size + 1) m (M.wdat ss x m)) := by
        obtain rfl : k = m := by have := HQ.out; have := HE.out; omega
        exact HOW.out
      clear x0
      go_wp2
      go_ret
      exact ⟨_, rfl, HT.out, M.bxd_below HBr.out⟩

set_option maxRecDepth 100000 in
set_option maxHeartbeats 3200000 in
theorem iRowP_any (w : World) (b x m : Nat) (ss : List ByteArray) (h : w.ownsMap Try.prog 2 M.pktElem b m (M.wdat ss x m)) (hf : M.fits ss = true) (hm4 : m ≤ 4) (hxm : x + m ≤ ss.length) :
    Calls Try.prog 47 #[.map (some b), .int .i64 (x : Int)] w fun e w' => ∃ v, e = .returned v ∧ M.OwnP w' w.heap.size v (M.winL ss x m) ∧ Below w.heap.size w w' := by
  obtain ⟨i0, hi, hz0, hz1, hz2⟩ := info_parts Try.infoPk
  have h300 : ss.length ≤ 300 := (M.fits_iff.1 hf).1
  have LOOK : Hid (∀ (k y : Nat), y = x + k → k ≤ m → ∃ p : M.PktD, (∀ W, Below w.heap.size w W → (Instr.lookup 68 (.map (some b)) (.int .i64 (y : Int)) true).run Try.prog W = .ok (.tuple #[.agg #[.int .i64 p.q, .bool p.l, .string p.s, .int .i64 p.c], .bool (decide (k < m))]) W) ∧ (k < m → p = M.pof ss (y : Int) ∧ p.q = (y : Int))) := fun k y hy hk => by
    subst hy
    by_cases hkm : k < m
    · refine ⟨M.pof ss ((x + k : Nat) : Int), fun W hW => ?_, fun _ => ⟨rfl, M.pof_q hf (by omega)⟩⟩
      obtain ⟨v, ps, hrun, hv⟩ := (M.map_below h hW).look_ok M.keyI Try.underlying68 (M.zeroPkt _) (M.pktElem_mk M.pzero) (M.keyAt (x + k) (by omega))
      obtain ⟨g1, g2⟩ := M.wdat_in ss x m k hkm
      rw [g2] at hv
      rw [g1] at hrun
      rw [decide_eq_true hkm]
      rw [M.pktElem_inv hv] at hrun
      exact hrun
    · refine ⟨M.pzero, fun W hW => ?_, fun h => absurd h hkm⟩
      obtain ⟨v, ps, hrun, hv⟩ := (M.map_below h hW).look_ok M.keyI Try.underlying68 (M.zeroPkt _) (M.pktElem_mk M.pzero) (M.keyAt (x + k) (by omega))
      have g1 := M.wdat_out ss x m (x + k) (by omega)
      rw [atKey_of_not_has g1] at hv
      rw [g1] at hrun
      rw [decide_eq_false hkm]
      rw [M.pktElem_inv hv] at hrun
      exact hrun
  have hx3 : x ≤ 300 := by omega
  clear h hf
  obtain ⟨p0, hr0, hp0⟩ := LOOK.out 0 x rfl (Nat.zero_le _)
  have hrun0 := hr0 w (Below.refl _ _)
  clear hr0
  have HP0 := M.hl hp0
  clear hp0
  go_enter Try.func47, Try.ntmps47
  go_wp2
  clear hrun0
  go_loopw [5, 6, 7] (fun v p there wr => ∃ (k g : Nat) (pk : M.PktD), p = .pointer (some ⟨g, 0, none⟩) ∧ there = .bool (decide (k < m)) ∧ k ≤ m ∧ Hid (k < m → pk = M.pof ss ((x + k : Nat) : Int) ∧ pk.q = ((x + k : Nat) : Int)) ∧ Hid (wr.heap[g]? = some (.cells #[.int .i64 pk.q, .bool pk.l, .string pk.s, .int .i64 pk.c] 53 (0, 0))) ∧ Hid (M.OwnP wr w.heap.size v (M.winL ss x k)) ∧ Hid (w.heap.size ≤ g ∧ ∀ j, v.ownBlock = some j → j ≠ g) ∧ Hid (Below w.heap.size w wr)) (fun v _ _ _ => m - (M.vlenP v))
  case atStart => exact ⟨0, w.heap.size, p0, rfl, rfl, Nat.zero_le _, (fun h => by have := HP0.out h; simpa using this), heap_alloc_new _ _, M.OwnP.nil _ _, ⟨Nat.le_refl _, fun j hj => by cases hj⟩, (Below.refl _ _).alloc (Nat.le_refl _) _⟩
  case round =>
    obtain ⟨k, g, pk, rfl, rfl, hk, HPK, HG, HO, HGB, HBr⟩ := hrel
    have k0 := M.bk_cell HG.out 0 _ rfl
    have k1 := M.bk_cell HG.out 1 _ rfl
    have k2 := M.bk_cell HG.out 2 _ rfl
    have k3 := M.bk_cell HG.out 3 _ rfl
    have hgl : g < wr.heap.size := (Array.getElem?_eq_some_iff.1 HG.out).1
    have hsz := HBr.out.size
    obtain ⟨va, vc, rfl⟩ := HO.out.len
    have hac : (M.winL ss x k).length = k := M.winL_len ss x k
    rw [hac]
    by_cases hlt : k < m
    · have dk : decide (k < m) = true := decide_eq_true hlt
      rw [dk]
      obtain ⟨hpe, hpq⟩ := HPK.out hlt
      obtain ⟨q, l, sx, c⟩ := pk
      simp only at hpq
      subst hpq
      obtain ⟨Y, hY⟩ : ∃ Y, Y = x + k := ⟨_, rfl⟩
      rw [← hY] at hpe k0 HG
      have HPE := M.hl hpe
      have HY := M.hl hY
      have hY3 : Y ≤ 400 := by omega
      obtain ⟨p2, hr2, hp2⟩ := LOOK.out (k + 1) (Y + 1) (by omega) (by omega)
      have HR2 := M.hl hr2
      have HP2 := M.hl hp2
      have O5 := HO.out
      unfold M.OwnP at O5
      rw [hac] at O5
      clear hpe hY hr2 hp2 HPK
      go_wp2_with (at_builtin; refine wpList_append_own _ rfl (.tmp 23) (.tmp 25) 33 rfl w.heap.size 53 i0 (.agg #[.int .i64 0, .bool false, .string ⟨#[]⟩, .int .i64 0]) 4 40 Try.underlying33 hi hz0 hz1 hz2 rfl (by decide) _ _ _ rfl (World.ownsRow.alloc O5 _) ⟨wr.heap.size, 0, none⟩ 1 1 (M.pcells ⟨(Y : Int), l, sx, c⟩) rfl rfl (M.four_n _ ⟨(Y : Int), l, sx, c⟩ _) ?c2 ?c3 ?c4 ?c5 ?_)
      case c2 => exact M.oneCell4 _
      case c3 => unfold maxLen; omega
      case c4 => omega
      case c5 => first | omega | (simp; omega)
      intro v' w6 hown' hgrow _
      have HO6 : Hid (M.OwnP w6 w.heap.size v' (M.winL ss x (k + 1))) := by
        show M.OwnP _ _ _ _
        rw [M.winL_snoc, ← HY.out, ← HPE.out]
        exact M.OwnP.more (by rw [hac]; exact hown')
      have hgall : wr.grownBy w6 _ := ((World.grownBy_alloc wr _ none).but _).trans hgrow
      have HB6 : Hid (Below w.heap.size w w6) := HBr.out.grown hgall HBr.out.size (fun j hj => (World.ownsRow.lt O5 j hj).1)
      have HNE := HGB.out.2
      have E6 := (hgall.block g hgl (fun e => HNE g (by rw [hac]; exact e.symm) rfl)).trans HG.out
      have j0 := M.bk_cell E6 0 _ rfl
      have j1 := M.bk_cell E6 1 _ rfl
      have j2 := M.bk_cell E6 2 _ rfl
      have j3 := M.bk_cell E6 3 _ rfl
      have BA : Hid (∀ o, Below w.heap.size w (w6.alloc o)) := fun o => HB6.out.alloc HB6.out.size _
      have hrun2 : ∀ o, (Instr.lookup 68 (.map (some b)) (.int .i64 ((Y : Int) + 1)) true).run Try.prog (w6.alloc o) = .ok (.tuple #[.agg #[.int .i64 p2.q, .bool p2.l, .string p2.s, .int .i64 p2.c], .bool (decide (k + 1 < m))]) (w6.alloc o) := fun o => by
        have := HR2.out (w6.alloc o) (BA.out o)
        rw [show ((Y + 1 : Nat) : Int) = (Y : Int) + 1 by omega] at this
        exact this
      have HLT : Hid (∀ j, v'.ownBlock = some j → j ≠ w6.heap.size) := fun j hj => by have := (World.ownsRow.lt HO6.out j hj).2; omega
      have HSZ6 := M.hl HB6.out.size
      clear hown' hgrow hgall O5 E6 k0 k1 k2 k3 HNE
      go_wp2
      go_roundw
      case rel => exact ⟨k + 1, w6.heap.size, p2, rfl, rfl, by omega, (fun h => by have := HP2.out h; rw [HY.out] at this; exact this), heap_alloc_new _ _, HO6.out.below ((Below.refl _ _).alloc (Nat.le_refl _) _), ⟨HSZ6.out, HLT.out⟩, BA.out _⟩
      case measure =>
        obtain ⟨va', vc', rfl⟩ := HO6.out.len
        simp [M.vlenP, M.winL_len]; omega
    · have dk : decide (k < m) = false := decide_eq_false hlt
      rw [dk]
      have HO7 : Hid (M.OwnP wr w.heap.size (.slice va k vc) (M.winL ss x m)) := by
        have := HO.out
        rw [hac] at this
        obtain rfl : k = m := by omega
        exact this
      clear k0 k1 k2 k3
      go_wp2
      go_ret
      exact ⟨_, rfl, HO7.out, HBr.out⟩
end Go.Proofs.Ytafenhodfoflbab
