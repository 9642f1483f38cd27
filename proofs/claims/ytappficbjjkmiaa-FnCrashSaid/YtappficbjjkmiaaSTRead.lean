/-
  What l07Read and TapesRead of the specification do.
-/
import Derived.Test.YtappficbjjkmiaaPart16
import Derived.Test.YtappficbjjkmiaaPart14
namespace Go.Proofs.Ytappficbjjkmiaa
open Go.RowKit

theorem M.OwnB.notPart {w : World} {base H : Nat} {v : Value} {L : List UInt8} {arr : Array Value} (h : M.OwnB w base v L) (hp : w.heap[H]? = some (.cells arr 47 (0, 0))) : v.ownBlock ≠ some H := by
  obtain ⟨-, ⟨rfl, -⟩ | ⟨g', cap, cur, rfl, -, hh, -⟩⟩ := h
  · intro e; cases e
  · intro e
    have e := Option.some.inj e
    simp only at e
    rw [e, hp] at hh
    have := Option.some.inj hh
    simp at this
def M.treadC (ts : List M.TapeD) (ps : List M.PartD) (Y : Nat) : ByteArray × Int :=
  match M.readB ts ps with
  | none => (⟨#[]⟩, 6)
  | some L => if (L.length : Int) < (Y : Int) then (⟨#[]⟩, 4) else (⟨(L.take Y).toArray⟩, 0)

set_option maxRecDepth 100000 in
set_option maxHeartbeats 3200000 in
theorem sL07Read_any (w : World) (a : Option Addr) (n c : Nat) (ts : List M.TapeD) (a' : Option Addr) (m c' : Nat) (ps : List M.PartD) (Y : Nat) (h : M.Tps w a n c ts) (hr : M.tapesR ts = true) (h' : M.Pts w a' m c' ps) (hm4 : m ≤ 400) :
    Calls Try.prog 63 #[.slice a n c, .slice a' m c', .int .i64 (Y : Int)] w fun e w' => e = .returned (.tuple #[.string (M.treadC ts ps Y).1, .int .i64 (M.treadC ts ps Y).2]) ∧ Below w.heap.size w w' := by
  obtain ⟨i0, hi, hz0, hz1, hz2⟩ := info_parts Try.infoB8
  have hnl := h.max
  have HF := M.hl h
  have HG := M.hl h'
  have HN : Hid (n = ts.length) := h.1
  have HMM : Hid (m = ps.length) := h'.1
  have HR := M.hl hr
  have BO : Hid (∀ o, Below w.heap.size w (w.alloc o)) := fun o => (Below.refl _ _).alloc (Nat.le_refl _) _
  have OE : Hid (M.OwnB (w.alloc (.cells #[] 5)) w.heap.size (.slice (some ⟨w.heap.size, 0, none⟩) 0 0) []) := ⟨rfl, .inr ⟨w.heap.size, 0, #[], rfl, Nat.le_refl _, heap_alloc_new _ _, Nat.le_refl _, Nat.zero_le _, rfl, rfl⟩⟩
  obtain ⟨tt, cc, hT⟩ : ∃ tt cc, M.treadC ts ps Y = (tt, cc) := ⟨_, _, rfl⟩
  have HTT := M.hl hT
  rw [hT]
  clear h h' hr hT
  go_enter Try.func63, Try.ntmps63
  go_wp2
  go_loopw [8, 9] (fun v i wr => ∃ (k : Nat) (L : List UInt8) (va : Option Addr) (vc : Nat), i = .int .i64 k ∧ v = .slice va L.length vc ∧ k ≤ m ∧ L.length ≤ 19200 * k ∧ Hid (M.readB ts (ps.take k) = some L) ∧ Hid (M.OwnB wr w.heap.size (.slice va L.length vc) L) ∧ Hid (Below w.heap.size w wr)) (fun _ i _ => m - (intOf i).toNat)
  case atStart => exact ⟨0, [], _, _, rfl, rfl, Nat.zero_le _, Nat.zero_le _, rfl, OE, BO.out _⟩
  case round =>
    obtain ⟨k, L, va, vc, rfl, rfl, hk, hLl, HL, HO, HBr⟩ := hrel
    by_cases hlt : k < m
    · obtain ⟨hfl, _, _, hfa⟩ := HG.out.below HBr.out
      obtain ⟨b, off, rfl, hat⟩ := hfa (by omega)
      obtain ⟨c0, c1, c2, c3⟩ := hat k (by omega)
      have hfk := List.getElem?_eq_getElem (l := ps) (i := k) (by omega)
      generalize ps[k]'(by omega) = f at c0 c1 c2 c3 hfk
      have HFK := M.hl hfk
      obtain ⟨q, l, s, z⟩ := f
      simp only at c0 c1 c2 c3
      obtain ⟨W1, hW1⟩ : ∃ W1, W1 = wr.alloc (.cells #[.int .i64 q, .int .i64 l, .int .i64 s, .int .i64 z] 47) := ⟨_, rfl⟩
      have V1 : Hid (W1.heap[wr.heap.size]? = some (.cells #[.int .i64 q, .int .i64 l, .int .i64 s, .int .i64 z] 47 (0, 0))) := by rw [hW1]; exact heap_alloc_new _ _
      have B1 : Hid (Below w.heap.size w W1) := by rw [hW1]; exact HBr.out.alloc HBr.out.size _
      have O1 : Hid (M.OwnB W1 w.heap.size (.slice va L.length vc) L) := by rw [hW1]; exact HO.out.below ((Below.refl _ _).alloc (Nat.le_refl _) _)
      have HW1 := M.hl hW1
      have k0 : ∀ x : M.Wd W1, x.val.cell? ⟨wr.heap.size, 0, none⟩ = some (.int .i64 q) := M.Wd.cell (M.bk_cell V1.out 0 _ rfl)
      have k1 : ∀ x : M.Wd W1, x.val.cell? ⟨wr.heap.size, 1, none⟩ = some (.int .i64 l) := M.Wd.cell (M.bk_cell V1.out 1 _ rfl)
      clear hfk hat hfa hfl hW1
      by_cases hq : q < 0
      · have HX : Hid (M.partB ts ⟨q, l, s, z⟩ = none) := M.partB_no (by simp only; omega)
        have d1 : decide (q < 0) = true := decide_eq_true hq
        go_wp2_with fail
        rw [← HW1.out]
        refine M.wp_region_wd (by kernel_rfl) (by kernel_rfl) (fun _ => ?_)
        repeat (first | go_big_quiet_skip | (go_big_quiet_want; go_big_quiet_op; go_big_quiet_on))
        refine wpQuiet_nil ?_
        intro wz hw'
        have hbz : Below W1.heap.size W1 wz := by obtain ⟨x, rfl⟩ := hw'; exact x.bel
        have HBZ := M.hl hbz
        have OZ := M.hl (O1.out.below hbz)
        have BZ := M.hl (M.sl B1.out hbz)
        clear hw' hbz
        go_wp2
        have HT : Hid (M.treadC ts ps Y = (⟨#[]⟩, 6)) := by show _ = _; unfold M.treadC; rw [M.readB_none HL.out HFK.out HX.out]
        have HTC := M.hl (HTT.out.symm.trans HT.out)
        obtain ⟨rfl, rfl⟩ := Prod.mk.inj HTC.out
        go_ret2
        exact ⟨rfl, BZ.out⟩
      have d1 : decide (q < 0) = false := decide_eq_false hq
      obtain ⟨Q, rfl⟩ := Int.eq_ofNat_of_zero_le (show 0 ≤ q by omega)
      by_cases hQ : Q < n
      case neg =>
        have HX : Hid (M.partB ts ⟨(Q : Int), l, s, z⟩ = none) := M.partB_no (by have := HN.out; simp only; omega)
        have d2 : decide (n ≤ Q) = true := decide_eq_true (by omega)
        go_wp2_with fail
        rw [← HW1.out]
        refine M.wp_region_wd (by kernel_rfl) (by kernel_rfl) (fun _ => ?_)
        repeat (first | go_big_quiet_skip | (go_big_quiet_want; go_big_quiet_op; go_big_quiet_on))
        refine wpQuiet_nil ?_
        intro wz hw'
        have hbz : Below W1.heap.size W1 wz := by obtain ⟨x, rfl⟩ := hw'; exact x.bel
        have HBZ := M.hl hbz
        have OZ := M.hl (O1.out.below hbz)
        have BZ := M.hl (M.sl B1.out hbz)
        clear hw' hbz
        go_wp2
        have HT : Hid (M.treadC ts ps Y = (⟨#[]⟩, 6)) := by show _ = _; unfold M.treadC; rw [M.readB_none HL.out HFK.out HX.out]
        have HTC := M.hl (HTT.out.symm.trans HT.out)
        obtain ⟨rfl, rfl⟩ := Prod.mk.inj HTC.out
        go_ret2
        exact ⟨rfl, BZ.out⟩
      have d2 : decide (n ≤ Q) = false := decide_eq_false (by omega)
      obtain ⟨b3, off3, t, rfl, hft, hat⟩ := HF.out.at hQ
      have HPB := M.hl (M.partB_at (p := ⟨(Q : Int), l, s, z⟩) rfl hft)
      obtain ⟨hbl, hb64⟩ := M.tapesR_blk HR.out (List.mem_of_getElem? hft)
      obtain ⟨lab, ss, sy, ro⟩ := t
      obtain ⟨e0, ⟨a1, n1, kc, e1, hst, -⟩, -, -⟩ := hat
      simp only at e0 e1 hst HPB hbl hb64
      have HN1 : Hid (n1 = ss.length) := hst.1
      have hn1 : n1 ≤ 300 := by have := HN1.out; omega
      have HST := M.hl hst
      have H64 := M.hl hb64
      have E1 := M.hl e1
      have r0 : ∀ x : M.Wd W1, x.val.cell? ⟨b3, off3 + Q * 4, none⟩ = some (.int .i64 lab) := M.Wd.cell ((B1.out.cell (p := ⟨b3, off3 + Q * 4, none⟩) (World.block_lt_of_cell? w _ e0)).trans e0)
      clear hft hst e0 e1 hbl hb64
      by_cases hl : lab = l
      case neg =>
        have HX : Hid (M.partB ts ⟨(Q : Int), l, s, z⟩ = none) := by show _ = _; rw [HPB.out, if_neg (fun hc => hl hc.1)]
        have d3 : (lab != l) = true := by rw [bne_iff_ne]; exact hl
        clear hl
        go_wp2_with fail
        rw [← HW1.out]
        refine M.wp_region_wd (by kernel_rfl) (by kernel_rfl) (fun _ => ?_)
        repeat (first | go_big_quiet_skip | (go_big_quiet_want; go_big_quiet_op; go_big_quiet_on))
        refine wpQuiet_nil ?_
        intro wz hw'
        have hbz : Below W1.heap.size W1 wz := by obtain ⟨x, rfl⟩ := hw'; exact x.bel
        have HBZ := M.hl hbz
        have OZ := M.hl (O1.out.below hbz)
        have BZ := M.hl (M.sl B1.out hbz)
        clear hw' hbz
        go_wp2
        have HT : Hid (M.treadC ts ps Y = (⟨#[]⟩, 6)) := by show _ = _; unfold M.treadC; rw [M.readB_none HL.out HFK.out HX.out]
        have HTC := M.hl (HTT.out.symm.trans HT.out)
        obtain ⟨rfl, rfl⟩ := Prod.mk.inj HTC.out
        go_ret2
        exact ⟨rfl, BZ.out⟩
      subst hl
      have d3 : (lab != lab) = false := by simp
      go_wp2_with fail
      rw [← HW1.out]
      refine M.wp_region_wd (by kernel_rfl) (by kernel_rfl) (fun _ => ?_)
      repeat (first | go_big_quiet_skip | (go_big_quiet_want; go_big_quiet_op; go_big_quiet_on))
      refine wpQuiet_nil ?_
      intro wz hw'
      have hbz : Below W1.heap.size W1 wz := by obtain ⟨x, rfl⟩ := hw'; exact x.bel
      have HBZ := M.hl hbz
      have OZ := M.hl (O1.out.below hbz)
      have BZ := M.hl (M.sl B1.out hbz)
      clear hw' hbz
      have VZ := M.hl (M.keepO V1.out HBZ.out)
      have z0 := M.bk_cell VZ.out 0 _ rfl
      have z2 := M.bk_cell VZ.out 2 _ rfl
      have z3 := M.bk_cell VZ.out 3 _ rfl
      have x1 := (BZ.out.cell (p := ⟨b3, off3 + Q * 4 + 1, none⟩) (World.block_lt_of_cell? w _ E1.out)).trans E1.out
      clear k0 k1 r0 c0 c1 c2 c3
      by_cases hs0 : s < 0
      · have HX : Hid (M.partB ts ⟨(Q : Int), lab, s, z⟩ = none) := by show _ = _; rw [HPB.out, if_neg (fun hc => by have := hc.2.1; omega)]
        have d4 : decide (s < 0) = true := decide_eq_true hs0
        have HT : Hid (M.treadC ts ps Y = (⟨#[]⟩, 6)) := by show _ = _; unfold M.treadC; rw [M.readB_none HL.out HFK.out HX.out]
        have HTC := M.hl (HTT.out.symm.trans HT.out)
        obtain ⟨rfl, rfl⟩ := Prod.mk.inj HTC.out
        go_wp2
        go_ret2
        exact ⟨rfl, BZ.out⟩
      have d4 : decide (s < 0) = false := decide_eq_false hs0
      obtain ⟨S, rfl⟩ := Int.eq_ofNat_of_zero_le (show 0 ≤ s by omega)
      by_cases hsn : n1 < S
      · have d5 : decide ((n1 : Int) < (S : Int)) = true := decide_eq_true (by omega)
        have HX : Hid (M.partB ts ⟨(Q : Int), lab, (S : Int), z⟩ = none) := by show _ = _; rw [HPB.out, if_neg (fun hc => by have h1 := hc.2.2.1; have h2 := hc.2.2.2; have := HN1.out; omega)]
        have HT : Hid (M.treadC ts ps Y = (⟨#[]⟩, 6)) := by show _ = _; unfold M.treadC; rw [M.readB_none HL.out HFK.out HX.out]
        have HTC := M.hl (HTT.out.symm.trans HT.out)
        obtain ⟨rfl, rfl⟩ := Prod.mk.inj HTC.out
        go_wp2
        go_ret2
        exact ⟨rfl, BZ.out⟩
      have d5 : decide ((n1 : Int) < (S : Int)) = false := decide_eq_false (by omega)
      by_cases hm0 : z < 0
      · have HX : Hid (M.partB ts ⟨(Q : Int), lab, (S : Int), z⟩ = none) := by show _ = _; rw [HPB.out, if_neg (fun hc => by have := hc.2.2.1; omega)]
        have d6 : decide (z < 0) = true := decide_eq_true hm0
        have HT : Hid (M.treadC ts ps Y = (⟨#[]⟩, 6)) := by show _ = _; unfold M.treadC; rw [M.readB_none HL.out HFK.out HX.out]
        have HTC := M.hl (HTT.out.symm.trans HT.out)
        obtain ⟨rfl, rfl⟩ := Prod.mk.inj HTC.out
        go_wp2
        go_ret2
        exact ⟨rfl, BZ.out⟩
      have d6 : decide (z < 0) = false := decide_eq_false hm0
      obtain ⟨Z, rfl⟩ := Int.eq_ofNat_of_zero_le (show 0 ≤ z by omega)
      by_cases hlen : (n1 : Int) - (S : Int) < (Z : Int)
      · have HX : Hid (M.partB ts ⟨(Q : Int), lab, (S : Int), (Z : Int)⟩ = none) := by show _ = _; rw [HPB.out, if_neg (fun hc => by have := hc.2.2.2; have := HN1.out; omega)]
        have d7 : decide ((n1 : Int) - (S : Int) < (Z : Int)) = true := decide_eq_true hlen
        have HT : Hid (M.treadC ts ps Y = (⟨#[]⟩, 6)) := by show _ = _; unfold M.treadC; rw [M.readB_none HL.out HFK.out HX.out]
        have HTC := M.hl (HTT.out.symm.trans HT.out)
        obtain ⟨rfl, rfl⟩ := Prod.mk.inj HTC.out
        go_wp2
        go_ret2
        exact ⟨rfl, BZ.out⟩
      have d7 : decide ((n1 : Int) - (S : Int) < (Z : Int)) = false := decide_eq_false hlen
      have hSM : S + Z ≤ n1 := by omega
      have HY : Hid (M.partB ts ⟨(Q : Int), lab, (S : Int), (Z : Int)⟩ = some ((ss.drop S).take Z)) := by show _ = _; rw [HPB.out, if_pos ⟨by first | rfl | trivial, by omega, by omega, by have := HN1.out; omega⟩]; simp
      have HX : Hid (M.readB ts (ps.take (k + 1)) = some (L ++ M.bytesOf ((ss.drop S).take Z))) := M.readB_some HL.out HFK.out HY.out
      clear z0 z2 z3 x1
      have z2 := M.bk_cell VZ.out 2 _ rfl
      have z3 := M.bk_cell VZ.out 3 _ rfl
      have z0 := M.bk_cell VZ.out 0 _ rfl
      have x1 := (BZ.out.cell (p := ⟨b3, off3 + Q * 4 + 1, none⟩) (World.block_lt_of_cell? w _ E1.out)).trans E1.out
      obtain ⟨HP, hHP⟩ : ∃ HP, HP = wr.heap.size := ⟨_, rfl⟩
      rw [← hHP] at VZ z0 z2 z3
      rw [← hHP]
      clear hHP
      go_wp2
      clear z0 z2 z3 x1
      go_loopw [8, 12] (fun v i wq => ∃ (j : Nat) (K : List UInt8) (va : Option Addr) (vc : Nat), i = .int .i64 ((S + j : Nat) : Int) ∧ v = .slice va K.length vc ∧ j ≤ Z ∧ K.length ≤ L.length + 64 * j ∧ Hid (K = L ++ M.bytesOf ((ss.drop S).take j)) ∧ Hid (M.OwnB wq w.heap.size (.slice va K.length vc) K) ∧ Hid (Below w.heap.size w wq) ∧ Hid (wq.heap[HP]? = some (.cells #[.int .i64 (Q : Int), .int .i64 lab, .int .i64 (S : Int), .int .i64 (Z : Int)] 47 (0, 0)))) (fun _ i _ => S + Z - (intOf i).toNat)
      case atStart => exact ⟨0, L, va, vc, by simp, rfl, Nat.zero_le _, by omega, (show _ = _ by simp [M.bytesOf]), OZ, BZ, VZ⟩
      case round =>
        obtain ⟨j, K, va2, vc2, rfl, rfl, hj, hKl, HK, HOr, HBq, HVq⟩ := hrel
        have z0 := M.bk_cell HVq.out 0 _ rfl
        have z2 := M.bk_cell HVq.out 2 _ rfl
        have z3 := M.bk_cell HVq.out 3 _ rfl
        have x1 := (HBq.out.cell (p := ⟨b3, off3 + Q * 4 + 1, none⟩) (World.block_lt_of_cell? w _ E1.out)).trans E1.out
        by_cases hjl : j < Z
        · obtain ⟨hfl, _, _, hfa⟩ := HST.out.below HBq.out
          obtain ⟨b2, off2, ha1, hat⟩ := hfa (by omega)
          subst ha1
          have y0 := hat (S + j) (by omega)
          have hfj := List.getElem?_eq_getElem (l := ss) (i := S + j) (by omega)
          generalize ss[S + j]'(by omega) = x at y0 hfj
          have HFJ : Hid ((ss.drop S)[j]? = some x) := by show _ = _; rw [List.getElem?_drop]; exact hfj
          have hx64 : x.size ≤ 64 := Nat.le_of_eq (H64.out x (List.mem_of_getElem? hfj))
          have HO3 := HOr.out
          have hsz := HBq.out.size
          have HBX := HBq.out
          have hIJ : S + j < n1 := by omega
          clear hfj hat hfa hfl
          go_wp2_with (at_builtin; refine Lib.wpList_append_own_string _ rfl (.tmp 86) (.tmp 95) 22 9 rfl w.heap.size 5 i0 Try.underlying22 Try.underlying9 hi hz0 hz1 hz2 _ _ _ rfl HO3 x rfl ?c1 ?c2 ?c3 ?_)
          case c1 => unfold maxLen; omega
          case c2 => omega
          case c3 => omega
          intro v' w3 hown' hgrow _
          have HO4 : Hid (M.OwnB w3 w.heap.size v' (K ++ x.data.toList)) := M.OwnB.more hown'
          have HB4 : Hid (Below w.heap.size w w3) := HBX.grown hgrow hsz (fun k hk => (World.ownsRow.lt HO3 k hk).1)
          have HK2 : Hid (K ++ x.data.toList = L ++ M.bytesOf ((ss.drop S).take (j + 1))) := by show _ = _; rw [List.take_add_one, HFJ.out, HK.out]; simp [M.bytesOf]
          have hk2 : (K ++ x.data.toList).length ≤ L.length + 64 * (j + 1) := by rw [List.length_append, ← Lib.size_eq]; omega
          have HV4 : Hid (w3.heap[HP]? = some (.cells #[.int .i64 (Q : Int), .int .i64 lab, .int .i64 (S : Int), .int .i64 (Z : Int)] 47 (0, 0))) := by
            show _ = _
            rw [hgrow.block _ (Array.getElem?_eq_some_iff.1 HVq.out).1 (fun e => M.OwnB.notPart HO3 HVq.out e.symm)]
            exact HVq.out
          obtain ⟨va3, vc3, hv3⟩ := HO4.out.len
          subst hv3
          clear hgrow hown' HO3 HBX hsz y0 z0 z2 z3 x1
          go_wp2
          go_roundw
          case rel => exact ⟨j + 1, K ++ x.data.toList, va3, vc3, by go_num, rfl, by omega, hk2, HK2, HO4, HB4, HV4⟩
          case measure => simp [intOf]; omega
        · have HK2 : Hid (M.readB ts (ps.take (k + 1)) = some K) := by
            show _ = _
            have := HK.out
            have hjz : j = Z := by omega
            rw [hjz] at this
            rw [HX.out, this]
          have hJ : ¬ ((S + j : Nat) : Int) < (S : Int) + (Z : Int) := by omega
          go_wp2
          go_roundw
          case rel => exact ⟨k + 1, K, va2, vc2, by go_num, rfl, by omega, by omega, HK2, HOr, HBq⟩
          case measure => simp [intOf]; omega
    · have HX : Hid (M.readB ts ps = some L) := by
        have := HL.out
        rwa [List.take_of_length_le (by have := HMM.out; omega)] at this
      by_cases hsh : (L.length : Int) < (Y : Int)
      · have HT : Hid (M.treadC ts ps Y = (⟨#[]⟩, 4)) := by show _ = _; unfold M.treadC; rw [HX.out]; simp only; rw [if_pos hsh]
        have d4 : decide ((L.length : Int) < (Y : Int)) = true := decide_eq_true hsh
        have HTC := M.hl (HTT.out.symm.trans HT.out)
        obtain ⟨rfl, rfl⟩ := Prod.mk.inj HTC.out
        go_wp2
        go_ret2
        exact ⟨rfl, HBr.out⟩
      · have HT : Hid (M.treadC ts ps Y = (⟨(L.take Y).toArray⟩, 0)) := by show _ = _; unfold M.treadC; rw [HX.out]; simp only; rw [if_neg hsh]
        have d4 : decide ((L.length : Int) < (Y : Int)) = false := decide_eq_false hsh
        have hcv := M.convPre HO.out (show Y ≤ L.length by omega)
        have hvc : L.length ≤ vc ∧ vc ≤ 9223372036854775807 := by
          obtain ⟨-, ⟨e, h0⟩ | ⟨g, cp, cur, e, -, -, hn, hc, -⟩⟩ := HO.out
          · simp only [Value.slice.injEq] at e; omega
          · simp only [Value.slice.injEq] at e; unfold maxLen at hc; omega
        have hYc : Y ≤ vc := by omega
        obtain ⟨hv1, hv2⟩ := hvc
        have HTC := M.hl (HTT.out.symm.trans HT.out)
        obtain ⟨rfl, rfl⟩ := Prod.mk.inj HTC.out
        obtain ⟨tx, htx⟩ : ∃ tx : ByteArray, tx = ⟨(L.take Y).toArray⟩ := ⟨_, rfl⟩
        rw [← htx] at hcv
        have HTX := M.hl htx
        clear htx HT HTC HTT
        go_wp2
        go_ret2
        exact ⟨by rw [HTX.out]; rfl, HBr.out⟩

theorem M.tread_C {ts : List M.TapeD} {ps : List M.PartD} {Y : Nat} (hn : ¬ (400 < ts.length ∨ 400 < ps.length)) (hr : M.tapesR ts = true) : M.tread ts ps (Y : Int) = M.treadC ts ps Y := by
  unfold M.tread M.treadC
  rw [if_neg hn, if_neg (by rw [hr]; simp)]
  rfl

set_option maxRecDepth 100000 in
set_option maxHeartbeats 3200000 in
theorem sTRead_any (w : World) (a : Option Addr) (n c : Nat) (ts : List M.TapeD) (a' : Option Addr) (m c' : Nat) (ps : List M.PartD) (many : Int) (h : M.Tps w a n c ts) (hok : ∀ t ∈ ts, M.tok t) (h' : M.Pts w a' m c' ps) :
    Calls Try.prog 19 #[.slice a n c, .slice a' m c', .int .i64 many] w fun e w' => e = .returned (M.treadV ts ps many) ∧ Below w.heap.size w w' := by
  have hnl := h.max
  have hml := h'.max
  have HF := M.hl h
  have HG := M.hl h'
  have HN : Hid (n = ts.length) := h.1
  have HMM : Hid (m = ps.length) := h'.1
  have BO : Hid (∀ o, Below w.heap.size w (w.alloc o)) := fun o => (Below.refl _ _).alloc (Nat.le_refl _) _
  have CR : Hid (∀ o, Calls Try.prog 20 #[.slice a n c] (w.alloc o) fun e w' => e = .returned (.bool (M.tapesR ts)) ∧ Below (w.alloc o).heap.size (w.alloc o) w') := fun o => sTapesR_any _ a n c ts (h.below (BO.out o)) hok
  clear h h' hok
  unfold M.treadV
  by_cases h4 : 400 < n
  case pos =>
    have HE : Hid (M.tread ts ps many = (⟨#[]⟩, 2)) := by show _ = _; unfold M.tread; rw [if_pos (.inl (by have := HN.out; omega))]
    have d1 : decide (400 < (n : Int)) = true := decide_eq_true (by omega)
    rw [HE.out]
    go_enter Try.func19, Try.ntmps19
    go_wp2
    refine bodyPost_ret (v := .agg #[.slice none 0 0, .slice none 0 0, .string ⟨#[]⟩, .int .i64 2]) (by simp [results, Try.results19, go_sem]) rfl ⟨rfl, ?_⟩
    exact BO.out _
  have d1 : decide (400 < (n : Int)) = false := decide_eq_false (by omega)
  by_cases h5 : 400 < m
  case pos =>
    have HE : Hid (M.tread ts ps many = (⟨#[]⟩, 2)) := by show _ = _; unfold M.tread; rw [if_pos (.inr (by have := HMM.out; omega))]
    have d2 : decide (400 < (m : Int)) = true := decide_eq_true (by omega)
    rw [HE.out]
    go_enter Try.func19, Try.ntmps19
    go_wp2
    refine bodyPost_ret (v := .agg #[.slice none 0 0, .slice none 0 0, .string ⟨#[]⟩, .int .i64 2]) (by simp [results, Try.results19, go_sem]) rfl ⟨rfl, ?_⟩
    exact BO.out _
  have d2 : decide (400 < (m : Int)) = false := decide_eq_false (by omega)
  have HNO : Hid (¬ (400 < ts.length ∨ 400 < ps.length)) := by show ¬ _; have := HN.out; have := HMM.out; omega
  by_cases hbad : M.tapesR ts = false ∨ many < 0
  case pos =>
    have HE : Hid (M.tread ts ps many = (⟨#[]⟩, 1)) := by show _ = _; unfold M.tread; rw [if_neg HNO.out, if_pos hbad]
    rw [HE.out]
    cases hr : M.tapesR ts
    case false =>
      rw [hr] at CR
      clear hbad
      go_enter Try.func19, Try.ntmps19
      go_wp2_with fail
      refine (CR.out _).mono ?_
      rintro e w1 ⟨rfl, hb⟩
      have V1 := M.hl ((hb.block w.heap.size (by simp)).trans (heap_alloc_new _ _))
      have B1 := M.hl ((BO.out _).trans (hb.mono (BO.out _).size))
      have f1 := M.bk_free V1.out
      have r0 := M.bk_cell V1.out 0 (.slice none 0 0) rfl
      have r1 := M.bk_cell V1.out 1 (.slice none 0 0) rfl
      have r2 := M.bk_cell V1.out 2 (.string ⟨#[]⟩) rfl
      have r3 := M.bk_cell V1.out 3 (.int .i64 0) rfl
      clear hb
      go_wp2
      refine bodyPost_ret (v := .agg #[.slice none 0 0, .slice none 0 0, .string ⟨#[]⟩, .int .i64 1]) (by simp [results, Try.results19, go_sem, r0, r1, r2, r3]) rfl ⟨rfl, ?_⟩
      exact (((B1.out.setCell (Nat.le_refl _) _).setCell (Nat.le_refl _) _).setCell (Nat.le_refl _) _).setCell (Nat.le_refl _) _
    case true =>
      have hmn : many < 0 := by rcases hbad with h | h; rw [hr] at h; cases h; exact h
      have d3 : decide (many < 0) = true := decide_eq_true hmn
      rw [hr] at CR
      clear hbad
      go_enter Try.func19, Try.ntmps19
      go_wp2_with fail
      refine (CR.out _).mono ?_
      rintro e w1 ⟨rfl, hb⟩
      have V1 := M.hl ((hb.block w.heap.size (by simp)).trans (heap_alloc_new _ _))
      have B1 := M.hl ((BO.out _).trans (hb.mono (BO.out _).size))
      have f1 := M.bk_free V1.out
      have r0 := M.bk_cell V1.out 0 (.slice none 0 0) rfl
      have r1 := M.bk_cell V1.out 1 (.slice none 0 0) rfl
      have r2 := M.bk_cell V1.out 2 (.string ⟨#[]⟩) rfl
      have r3 := M.bk_cell V1.out 3 (.int .i64 0) rfl
      clear hb
      go_wp2
      refine bodyPost_ret (v := .agg #[.slice none 0 0, .slice none 0 0, .string ⟨#[]⟩, .int .i64 1]) (by simp [results, Try.results19, go_sem, r0, r1, r2, r3]) rfl ⟨rfl, ?_⟩
      exact (((B1.out.setCell (Nat.le_refl _) _).setCell (Nat.le_refl _) _).setCell (Nat.le_refl _) _).setCell (Nat.le_refl _) _
  have hr : M.tapesR ts = true := by cases e : M.tapesR ts; exact absurd (.inl e) hbad; rfl
  have d3 : decide (many < 0) = false := decide_eq_false (fun e => hbad (.inr e))
  obtain ⟨Y, rfl⟩ := Int.eq_ofNat_of_zero_le (show 0 ≤ many by omega)
  rw [M.tread_C HNO.out hr]
  have CL : Hid (∀ W, Below w.heap.size w W → Calls Try.prog 63 #[.slice a n c, .slice a' m c', .int .i64 (Y : Int)] W fun e w' => e = .returned (.tuple #[.string (M.treadC ts ps Y).1, .int .i64 (M.treadC ts ps Y).2]) ∧ Below W.heap.size W w') := fun W hW => sL07Read_any W a n c ts a' m c' ps Y (HF.out.below hW) hr (HG.out.below hW) (by omega)
  rw [hr] at CR
  generalize M.treadC ts ps Y = p at CL
  obtain ⟨tt, cc⟩ := p
  simp only at CL
  clear hbad hr
  go_enter Try.func19, Try.ntmps19
  go_wp2_with fail
  refine (CR.out _).mono ?_
  rintro e w1 ⟨rfl, hb⟩
  have V1 := M.hl ((hb.block w.heap.size (by simp)).trans (heap_alloc_new _ _))
  have B1 := M.hl ((BO.out _).trans (hb.mono (BO.out _).size))
  clear hb
  go_wp2_with fail
  refine (CL.out _ B1.out).mono ?_
  rintro e w2 ⟨rfl, hb⟩
  have V2 := M.hl (M.keepO V1.out hb)
  have B2 := M.hl (M.sl B1.out hb)
  have f1 := M.bk_free V2.out
  have r0 := M.bk_cell V2.out 0 (.slice none 0 0) rfl
  have r1 := M.bk_cell V2.out 1 (.slice none 0 0) rfl
  have r2 := M.bk_cell V2.out 2 (.string ⟨#[]⟩) rfl
  have r3 := M.bk_cell V2.out 3 (.int .i64 0) rfl
  clear hb
  go_wp2
  refine bodyPost_ret (v := .agg #[.slice none 0 0, .slice none 0 0, .string tt, .int .i64 cc]) (by simp [results, Try.results19, go_sem, r0, r1, r2, r3]) rfl ⟨rfl, ?_⟩
  exact (((B2.out.setCell (Nat.le_refl _) _).setCell (Nat.le_refl _) _).setCell (Nat.le_refl _) _).setCell (Nat.le_refl _) _
end Go.Proofs.Ytappficbjjkmiaa
