/-
  Kept of the program answers as that of the specification, at every slice of marks and every slice of Ids; its answer owns its memory.
-/
import Derived.Test.YtcpmfkmohfmaaabKeptSW
import Derived.Test.YtcpmfkmohfmaaabIKept
import Derived.Test.YtcpmfkmohfmaaabSKept
namespace Go.Proofs.Ytcpmfkmohfmaaab
open Go.RowKit

theorem M.KeptOut.len {ms : List M.MkD} {ids zs : List Int} (h : M.KeptOut ms ids zs) : zs.length ≤ 60 := by
  rcases h with ⟨h1, -, rfl⟩ | ⟨-, rfl⟩
  · exact Nat.le_trans (M.keep_len _ _ _) h1.1
  · simp

set_option maxRecDepth 100000 in
set_option maxHeartbeats 3200000 in
theorem fnExactKept_walk (a0 : Option Addr) (len0 cap0 : Nat) (ms0 : List M.MkD) (a1 : Option Addr) (len1 cap1 : Nat) (zs1 : List Int) (w : World) (h : M.Mks w a0 len0 cap0 ms0) (_ : ∀ m ∈ ms0, M.mok m) (h1 : M.NV w a1 len1 zs1) (hmx : len1 ≤ maxLen) :
    Calls Try.prog 3 #[.slice a0 len0 cap0, .slice a1 len1 cap1] w fun e w' => e = .returned (.bool true) ∧ Below w.heap.size w w' := by
  have HM := M.hidm h
  have HI := M.hidm h1
  have HIL : Hid (len1 = zs1.length) := h1.1
  have hlm : len1 ≤ 9223372036854775807 := by unfold maxLen at hmx; omega
  clear h h1 hmx
  by_cases hbig : 1048576 < len1
  · have d0 : decide (1048576 < (len1 : Int)) = true := decide_eq_true (by omega)
    clear hbig
    go_enter Try.func3, Try.ntmps3
    go_wp2
    go_ret
    exact ⟨rfl, Below.refl _ _⟩
  have d0 : decide (1048576 < (len1 : Int)) = false := decide_eq_false (by omega)
  have hl1 : len1 ≤ 1048576 := by omega
  clear hbig
  go_enter Try.func3, Try.ntmps3
  go_wp2_with fail
  refine (szMarkS_any w a0 len0 cap0 ms0 HM.out).mono ?_
  rintro e w' ⟨v, rfl, hv, hv2, rfl⟩
  by_cases hneg : v < 0
  · go_wp2
    go_ret
    exact ⟨rfl, Below.refl _ _⟩
  have hl := hv (by omega)
  clear hv
  go_wp2_with fail
  refine (toMarkS_any w a0 len0 cap0 ms0 HM.out hl).mono ?_
  rintro e w1 ⟨b1, rfl, hm1, -, -, hb1⟩
  have M1 := M.hidm hm1
  have B1 := M.hidm hb1
  clear hm1 hb1
  go_wp2_with fail
  refine (toInt64S_any w1 a1 len1 cap1 zs1 (HI.out.below B1.out) hl1).mono ?_
  rintro e w1' ⟨c1, rfl, hn1, -, hb1⟩
  have M1' := M.hidm (M1.out.below hb1)
  have N1 : Hid (M.NV w1' (some ⟨c1, 0, none⟩) len1 zs1) := by have := hn1.nv; rw [← HIL.out] at this; exact this
  have B1' := M.hidm (M.sm B1.out hb1)
  clear hn1 hb1 M1
  go_wp2_with fail
  refine (sKept_any w1' _ len0 len0 ms0 _ len1 len1 zs1 M1'.out N1.out hl1).mono ?_
  rintro e w2 ⟨vs, zs, rfl, hos, hzs, hb⟩
  have HZ := M.hidm hzs
  have S2 := M.hidm hos
  have B2 := M.hidm (M.sm B1'.out hb)
  have hzl : zs.length ≤ 60 := hzs.len
  clear hzs hos hb M1' N1
  go_wp2_with fail
  refine (toMarkS_any w2 a0 len0 cap0 ms0 (HM.out.below B2.out) hl).mono ?_
  rintro e w3 ⟨b3, rfl, hm3, hr3, hb23, hb3⟩
  have M3 := M.hidm hm3
  have R3 := M.hidm hr3
  have S3 := M.hidm (S2.out.below hb3)
  have B3 := M.hidm (M.sm B2.out hb3)
  have hlt3 : b3 < w3.heap.size := hr3.lt
  have SB : Hid (∀ j, vs.ownBlock = some j → j < b3) := fun j hj => by have := (World.ownsRow.lt S2.out j hj).2; omega
  clear hm3 hb3 hr3
  go_wp2_with fail
  refine (toInt64S_any w3 a1 len1 cap1 zs1 (HI.out.below B3.out) hl1).mono ?_
  rintro e w3' ⟨c3, rfl, hn3, hc3, hb⟩
  have N3 := M.hidm hn3
  have NV3 : Hid (M.NV w3' (some ⟨c3, 0, none⟩) len1 zs1) := by have := hn3.nv; rw [← HIL.out] at this; exact this
  have M3' := M.hidm (M3.out.below hb)
  have S3' := M.hidm (S3.out.below hb)
  have R3' : Hid (M.Row w3' b3 36 (len0 * 3)) := R3.out.of_block (hb.block b3 hlt3)
  have B3' := M.hidm (M.sm B3.out hb)
  have hlc3 : c3 < w3'.heap.size := hn3.lt
  have hlb3 : b3 < w3'.heap.size := R3'.out.lt
  clear hn3 hb M3 S3 R3
  go_wp2_with fail
  refine (iKept_any w3' _ len0 len0 ms0 _ len1 len1 zs1 M3'.out NV3.out hl1).mono ?_
  rintro e w4 ⟨vg, zs', rfl, hog, hzs', hb⟩
  obtain rfl : zs = zs' := HZ.out.same hzs'
  have G4 := M.hidm hog
  have S4 := M.hidm (S3'.out.below hb)
  have M4 := M.hidm (M3'.out.below hb)
  have R4 : Hid (M.Row w4 b3 36 (len0 * 3)) := R3'.out.of_block (hb.block b3 hlb3)
  have N4 : Hid (M.NumsAt w4 c3 len1 zs1) := N3.out.of_block (hb.block c3 hlc3)
  have B4 := M.hidm (M.sm B3'.out hb)
  have GB : Hid (∀ j, vg.ownBlock = some j → c3 < j) := fun j hj => by have := (World.ownsRow.lt hog j hj).1; omega
  have hbc : b3 < c3 := by omega
  clear hog hzs' hb S3' M3' R3' N3 NV3
  go_wp2_with fail
  refine (eqInt64S_same w4 _ _ vg vs zs G4.out S4.out (by omega)).mono ?_
  rintro e w5 ⟨rfl, hb⟩
  have G5 := M.hidm (G4.out.below hb)
  have S5 := M.hidm (S4.out.below hb)
  have M5 := M.hidm (M4.out.below hb)
  have R5 : Hid (M.Row w5 b3 36 (len0 * 3)) := R4.out.of_block (hb.block b3 R4.out.lt)
  have N5 : Hid (M.NumsAt w5 c3 len1 zs1) := N4.out.of_block (hb.block c3 N4.out.lt)
  have B5 := M.hidm (M.sm B4.out hb)
  clear hb G4 S4 M4 R4 N4
  go_wp2_with fail
  refine (toMarkS_any w5 a0 len0 cap0 ms0 (HM.out.below B5.out) hl).mono ?_
  rintro e w6 ⟨b6, rfl, hm6, -, -, hb6⟩
  have M6 := M.hidm hm6
  have M6' := M.hidm (M5.out.below hb6)
  have G6 := M.hidm (G5.out.below hb6)
  have S6 := M.hidm (S5.out.below hb6)
  have R6 : Hid (M.Row w6 b3 36 (len0 * 3)) := R5.out.of_block (hb6.block b3 R5.out.lt)
  have N6 : Hid (M.NumsAt w6 c3 len1 zs1) := N5.out.of_block (hb6.block c3 N5.out.lt)
  have B6 := M.hidm (M.sm B5.out hb6)
  clear hm6 hb6 G5 S5 M5 R5 N5
  go_wp2_with fail
  refine (eqMarkS_same w6 _ _ len0 len0 len0 len0 ms0 M6'.out M6.out).mono ?_
  rintro e w7 ⟨rfl, hb⟩
  have G7 := M.hidm (G6.out.below hb)
  have S7 := M.hidm (S6.out.below hb)
  have R7 : Hid (M.Row w7 b3 36 (len0 * 3)) := R6.out.of_block (hb.block b3 R6.out.lt)
  have N7 : Hid (M.NumsAt w7 c3 len1 zs1) := N6.out.of_block (hb.block c3 N6.out.lt)
  have B7 := M.hidm (M.sm B6.out hb)
  clear hb G6 S6 R6 M6 M6' N6
  go_wp2_with fail
  refine (toInt64S_any w7 a1 len1 cap1 zs1 (HI.out.below B7.out) hl1).mono ?_
  rintro e w7a ⟨c7, rfl, hn7, -, hb⟩
  have NX : Hid (M.NV w7a (some ⟨c7, 0, none⟩) len1 zs1) := by have := hn7.nv; rw [← HIL.out] at this; exact this
  have G7a := M.hidm (G7.out.below hb)
  have S7a := M.hidm (S7.out.below hb)
  have R7a : Hid (M.Row w7a b3 36 (len0 * 3)) := R7.out.of_block (hb.block b3 R7.out.lt)
  have N7a : Hid (M.NumsAt w7a c3 len1 zs1) := N7.out.of_block (hb.block c3 N7.out.lt)
  have NV7 : Hid (M.NV w7a (some ⟨c3, 0, none⟩) len1 zs1) := by have := N7a.out.nv; rw [← HIL.out] at this; exact this
  have B7a := M.hidm (M.sm B7.out hb)
  clear hn7 hb G7 S7 R7 N7
  go_wp2_with fail
  refine (eqInt64S_nv w7a _ _ len1 len1 len1 zs1 NV7.out NX.out (by omega)).mono ?_
  rintro e w7b ⟨rfl, hb⟩
  have G7b := M.hidm (G7a.out.below hb)
  have S7b := M.hidm (S7a.out.below hb)
  have R7b : Hid (M.Row w7b b3 36 (len0 * 3)) := R7a.out.of_block (hb.block b3 R7a.out.lt)
  have N7b : Hid (M.NumsAt w7b c3 len1 zs1) := N7a.out.of_block (hb.block c3 N7a.out.lt)
  have B7b := M.hidm (M.sm B7a.out hb)
  clear hb G7a S7a R7a N7a NX NV7
  go_wp2_with fail
  refine (markMarkS_le w7b b3 len0 R7b.out hl).mono ?_
  rintro e w8 ⟨u, rfl, hu, hu2, hg⟩
  have G8 := M.hidm (G7b.out.grown hg (fun j hj e => by have := GB.out j hj; have := Option.some.inj e; omega))
  have S8 := M.hidm (S7b.out.grown hg (fun j hj e => by have := SB.out j hj; have := Option.some.inj e; omega))
  have N8 : Hid (M.NumsAt w8 c3 len1 zs1) := N7b.out.of_block (hg.block c3 N7b.out.lt (fun e => by have := Option.some.inj e; omega))
  have hwb : w.heap.size ≤ b3 := by have := B2.out.size; omega
  have B8 : Hid (Below w.heap.size w w8) := B7b.out.grown hg B7b.out.size (fun j hj => by cases hj; exact hwb)
  clear hg G7b S7b R7b N7b
  go_wp2_with fail
  refine (markInt64S_on w8 c3 len1 len1 zs1 u N8.out HIL.out hl1 hu hu2).mono ?_
  rintro e w8a ⟨u2, rfl, hu3, hg⟩
  have G8a := M.hidm (G8.out.grown hg (fun j hj e => by have := GB.out j hj; have := Option.some.inj e; omega))
  have S8a := M.hidm (S8.out.grown hg (fun j hj e => by have := SB.out j hj; have := Option.some.inj e; omega))
  have B8a : Hid (Below w.heap.size w w8a) := B8.out.grown hg B8.out.size (fun j hj => by cases hj; omega)
  have du : decide (u2 < 0) = false := decide_eq_false (by omega)
  clear hg G8 S8 N8 hu hu2 hu3
  go_wp2_with fail
  refine (eqInt64S_same w8a _ _ vg vs zs G8a.out S8a.out (by omega)).mono ?_
  rintro e w9 ⟨rfl, hb⟩
  have G9 := M.hidm (G8a.out.below hb)
  have S9 := M.hidm (S8a.out.below hb)
  have B9 := M.hidm (M.sm B8a.out hb)
  clear hb G8a S8a du
  go_wp2_with fail
  refine (markInt64S_own w9 _ vg zs G9.out (by omega)).mono ?_
  rintro e w10 ⟨rfl, hg10, hg⟩
  have G10 := M.hidm hg10
  have S10 := M.hidm (S9.out.grown hg (fun j hj e => by have := SB.out j hj; have := GB.out j e.symm; omega))
  have B10 : Hid (Below w.heap.size w w10) := B9.out.grown hg B9.out.size (fun j hj => by have := GB.out j hj; have := B2.out.size; omega)
  clear hg10 hg G9 S9
  obtain ⟨n, hn⟩ : ∃ n, n = zs.length := ⟨_, rfl⟩
  rw [← hn] at G10
  rw [← hn]
  go_wp2_with fail
  refine (heldInt64S_own w10 _ vg n G10.out (by omega)).mono ?_
  rintro e w' ⟨rfl, rfl⟩
  have dn : decide ((n : Int) + 1 < 0) = false := decide_eq_false (by omega)
  have dq : (((n : Int) + 1) != ((n : Int) + 1)) = false := by simp
  go_wp2_with fail
  refine (toMarkS_any w10 a0 len0 cap0 ms0 (HM.out.below B10.out) hl).mono ?_
  rintro e w11 ⟨b11, rfl, hm11, -, -, hb11⟩
  have M11 := M.hidm hm11
  have G11 := M.hidm (G10.out.below hb11)
  have S11 := M.hidm (S10.out.below hb11)
  have B11 := M.hidm (M.sm B10.out hb11)
  clear hm11 hb11 G10 S10
  go_wp2_with fail
  refine (toInt64S_any w11 a1 len1 cap1 zs1 (HI.out.below B11.out) hl1).mono ?_
  rintro e w11a ⟨c11, rfl, hn11, -, hb⟩
  have NX : Hid (M.NV w11a (some ⟨c11, 0, none⟩) len1 zs1) := by have := hn11.nv; rw [← HIL.out] at this; exact this
  have M11a := M.hidm (M11.out.below hb)
  have G11a := M.hidm (G11.out.below hb)
  have S11a := M.hidm (S11.out.below hb)
  have B11a := M.hidm (M.sm B11.out hb)
  clear hn11 hb M11 G11 S11
  go_wp2_with fail
  refine (iKept_any w11a _ len0 len0 ms0 _ len1 len1 zs1 M11a.out NX.out hl1).mono ?_
  rintro e w12 ⟨vh, zs', rfl, hog, hzs', hb⟩
  obtain rfl : zs = zs' := HZ.out.same hzs'
  have H12 := M.hidm hog
  have G12 := M.hidm (G11a.out.below hb)
  have S12 := M.hidm (S11a.out.below hb)
  have B12 := M.hidm (M.sm B11a.out hb)
  clear hog hzs' hb G11a S11a M11a NX
  go_wp2_with fail
  refine (eqInt64S_same w12 _ _ vh vs zs H12.out S12.out (by omega)).mono ?_
  rintro e w13 ⟨rfl, hb⟩
  have G13 := M.hidm (G12.out.below hb)
  have B13 := M.hidm (M.sm B12.out hb)
  clear hb G12 S12 H12
  go_wp2_with fail
  refine (heldInt64S_own w13 _ vg n G13.out (by omega)).mono ?_
  rintro e w' ⟨rfl, rfl⟩
  go_wp2
  go_ret
  exact ⟨rfl, B13.out⟩
end Go.Proofs.Ytcpmfkmohfmaaab
