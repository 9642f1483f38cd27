/-
  For every list of files and every path the law of TreeDrop returns true.
-/
import Derived.Test.YtbmbcfnlpbbapagDoorMarkOwn
import Derived.Test.YtbmbcfnlpbbapagDoorSTreeDrop
import Derived.Test.YtbmbcfnlpbbapagDoorIDrop
import Derived.Test.YtbmbcfnlpbbapagDoorToF
import Derived.WalkKit
import Derived.WalkSpells
import Derived.WalkLawsBesides
namespace Go.Proofs.YtbmbcfnlpbbapagDoor
open Go.RowKit

theorem M.DropR.len {fs : List M.FileD} {p : ByteArray} {gs : List M.FileD} (h : M.DropR fs p gs) : gs.length ≤ 400 := by
  by_cases hb : 400 < fs.length ∨ 20000 < p.size
  · rw [h.1 hb]; simp
  · by_cases ht : M.TreeR fs
    · obtain ⟨r1, m1⟩ := (h.2 hb).2 ht
      have e : gs = fs.filter (fun f => !M.isBelow f.path p) := M.rising_ext r1 (M.rising_filter (M.rising_of_tree ht) _) (fun f => by rw [m1 f, List.mem_filter]; simp)
      have := List.length_filter_le (fun f => !M.isBelow f.path p) fs
      have := ht.len
      rw [e]; omega
    · rw [(h.2 hb).1 ht]; omega
theorem M.Own.below {w w' : World} {b : Nat} {T : TypeId} {v : Value} {gs : List M.FileD} (h : M.Own w b T v gs) (hb : Below w.heap.size w w') : M.Own w' b T v gs :=
  World.ownsRow.kept h (row := none) ⟨hb.os, hb.tape, hb.output, hb.size, fun k hk _ => hb.block k hk⟩ (by cases v.ownBlock <;> simp)

set_option maxRecDepth 100000 in
set_option maxHeartbeats 3200000 in
theorem fnExactTreeDrop_walk (a0 : Option Addr) (len0 cap0 : Nat) (fs0 : List M.FileD) (p : ByteArray) (w : World) (h0 : M.Files w a0 len0 cap0 fs0) (ok0 : ∀ f ∈ fs0, M.fok f) (hp : p.size ≤ maxLen) (hm : M.ml w) :
    Calls Tryd.prog 6 #[.slice a0 len0 cap0, .string p] w fun e w' => e = .returned (.bool true) ∧ Below w.heap.size w w' := by
  have H0 : Hid (M.Files w a0 len0 cap0 fs0) := h0
  have O0 : Hid (∀ f ∈ fs0, M.fok f) := ok0
  have HM : Hid (M.ml w) := hm
  have HL0 : Hid (len0 = fs0.length) := h0.1
  have hp' : p.size ≤ 9223372036854775807 := by unfold maxLen at hp; omega
  clear h0 ok0 hm hp
  by_cases hbig : 1048576 < p.size
  · go_enter Tryd.func6, Tryd.ntmps6
    go_wp2
    go_ret
    exact ⟨rfl, Below.refl _ _⟩
  go_enter Tryd.func6, Tryd.ntmps6
  go_wp2_with fail
  refine (szFileS_any _ a0 len0 cap0 fs0 1048576 H0.out O0.out (by omega) (by omega)).mono ?_
  rintro e w1 ⟨v, rfl, hv1, hv2, hb⟩
  have HV2 : Hid (0 ≤ v → (len0 : Int) ≤ 1048576 ∧ ∀ f ∈ fs0, (f.path.size : Int) + f.data.size ≤ 1048576) := hv2
  have B1 : Hid (Below w.heap.size w w1) := hb
  clear hv2 hb
  by_cases hneg : v < 0
  · go_wp2
    go_ret
    exact ⟨rfl, B1.out⟩
  have hl0 := (HV2.out (by omega)).1
  have HSZ : Hid (∀ f ∈ fs0, f.path.size ≤ 100000000 ∧ f.data.size ≤ 100000000) := fun f hf => by have := (HV2.out (by omega)).2 f hf; omega
  clear HV2
  go_wp2_with fail
  refine (toF_any w1 a0 len0 cap0 fs0 (H0.out.below B1.out) (by omega)).mono ?_
  rintro e w3 ⟨b3, rfl, hf3, hb⟩
  have F3 : Hid (M.Files w3 (some ⟨b3, 0, none⟩) len0 len0 fs0) := hf3
  have B3 : Hid (Below w.heap.size w w3) := B1.out.trans (hb.mono B1.out.size)
  clear hf3 hb B1
  go_wp2_with fail
  refine (sDrop_any w3 b3 0 len0 len0 fs0 p F3.out O0.out hp').mono ?_
  rintro e w5 ⟨v0, gs, rfl, hown, hdr, hb⟩
  have HD : Hid (M.DropR fs0 p gs) := hdr
  have V5 : Hid (M.Own w5 w3.heap.size 31 v0 gs) := hown
  have HV0 : Hid (∀ j, v0.ownBlock = some j → j < w5.heap.size) := fun j hj => (World.ownsRow.lt hown j hj).2
  have B5 : Hid (Below w.heap.size w w5) := B3.out.trans (hb.mono B3.out.size)
  have hgl : gs.length ≤ 400 := hdr.len
  clear hown hdr hb B3 F3
  generalize w3.heap.size = Z0 at V5
  go_wp2_with fail
  refine (toFileS_any w5 a0 len0 cap0 fs0 (H0.out.below B5.out) (by omega)).mono ?_
  rintro e w6 ⟨rfl, hat, hrow, hb⟩
  have A6 : Hid (M.FilesAt w6 w5.heap.size 0 fs0) := hat
  have R6 : Hid (M.Row w6 w5.heap.size 31 (len0 * 5)) := hrow
  have V6 : Hid (M.Own w6 Z0 31 v0 gs) := V5.out.below hb
  have B6 : Hid (Below w.heap.size w w6) := B5.out.trans (hb.mono B5.out.size)
  have HX : Hid (w.heap.size ≤ w5.heap.size) := B5.out.size
  clear hat hrow hb B5 V5
  generalize w5.heap.size = X at A6 R6 HX HV0
  have F6 : Hid (M.Files w6 (some ⟨X, 0, none⟩) len0 len0 fs0) := ⟨HL0.out, Nat.le_refl _, by unfold maxLen; omega, fun _ => ⟨X, 0, rfl, A6.out⟩⟩
  have HX6 : Hid (X < w6.heap.size) := R6.out.lt
  go_wp2_with fail
  refine (iDrop_any w6 (some ⟨X, 0, none⟩) len0 len0 fs0 p F6.out O0.out HSZ.out hp' (M.ml_below HM.out B6.out)).mono ?_
  rintro e w8 ⟨v1, gs', rfl, hown, hdr, hb⟩
  obtain rfl : gs = gs' := HD.out.unique hdr
  have G8 : Hid (M.Own w8 w6.heap.size 31 v1 gs) := hown
  have V8 : Hid (M.Own w8 Z0 31 v0 gs) := V6.out.below hb
  have F8 : Hid (M.Files w8 (some ⟨X, 0, none⟩) len0 len0 fs0) := F6.out.below hb
  have R8 : Hid (M.Row w8 X 31 (len0 * 5)) := R6.out.of_block (hb.block X HX6.out)
  have B8 : Hid (Below w.heap.size w w8) := B6.out.trans (hb.mono B6.out.size)
  have HW6 : Hid (w.heap.size ≤ w6.heap.size) := B6.out.size
  clear hown hdr hb V6 F6 R6 B6 A6
  generalize w6.heap.size = Y at G8 HX6 HW6
  go_wp2_with fail
  refine (eq_own w8 _ _ v1 v0 gs G8.out V8.out).mono ?_
  rintro e w9 ⟨rfl, hb⟩
  have G9 : Hid (M.Own w9 Y 31 v1 gs) := G8.out.below hb
  have V9 : Hid (M.Own w9 Z0 31 v0 gs) := V8.out.below hb
  have F9 : Hid (M.Files w9 (some ⟨X, 0, none⟩) len0 len0 fs0) := F8.out.below hb
  have R9 : Hid (M.Row w9 X 31 (len0 * 5)) := R8.out.of_block (hb.block X R8.out.lt)
  have B9 : Hid (Below w.heap.size w w9) := B8.out.trans (hb.mono B8.out.size)
  clear hb G8 V8 F8 R8 B8
  go_wp2_with fail
  refine (toF_any w9 a0 len0 cap0 fs0 (H0.out.below B9.out) (by omega)).mono ?_
  rintro e w10 ⟨b10, rfl, hf10, hb⟩
  have F10 : Hid (M.Files w10 (some ⟨b10, 0, none⟩) len0 len0 fs0) := hf10
  have F910 : Hid (M.Files w10 (some ⟨X, 0, none⟩) len0 len0 fs0) := F9.out.below hb
  have G10 : Hid (M.Own w10 Y 31 v1 gs) := G9.out.below hb
  have V10 : Hid (M.Own w10 Z0 31 v0 gs) := V9.out.below hb
  have R10 : Hid (M.Row w10 X 31 (len0 * 5)) := R9.out.of_block (hb.block X R9.out.lt)
  have B10 : Hid (Below w.heap.size w w10) := B9.out.trans (hb.mono B9.out.size)
  clear hf10 hb G9 V9 F9 R9 B9
  go_wp2_with fail
  refine (eqFileS_any w10 _ _ len0 len0 len0 len0 fs0 fs0 F910.out F10.out).mono ?_
  rintro e w11 ⟨u, rfl, hu, hb⟩
  obtain rfl : u = true := hu.2 rfl
  have G11 : Hid (M.Own w11 Y 31 v1 gs) := G10.out.below hb
  have V11 : Hid (M.Own w11 Z0 31 v0 gs) := V10.out.below hb
  have R11 : Hid (M.Row w11 X 31 (len0 * 5)) := R10.out.of_block (hb.block X R10.out.lt)
  have B11 : Hid (Below w.heap.size w w11) := B10.out.trans (hb.mono B10.out.size)
  clear hu hb G10 V10 F910 F10 R10 B10
  go_wp2_with fail
  refine (mark_any w11 X len0 len0 (len0 * 5) 1 R11.out (Nat.le_refl _) (by omega) (by omega) (by omega)).mono ?_
  rintro e w12 ⟨rfl, -, -, hg⟩
  have G12 : Hid (M.Own w12 Y 31 v1 gs) := World.ownsRow.kept G11.out hg (.inr (fun e => by have := G11.out.block _ e; have := HX6.out; omega))
  have V12 : Hid (M.Own w12 Z0 31 v0 gs) := World.ownsRow.kept V11.out hg (.inr (fun e => by have := HV0.out _ e; omega))
  have B12 : Hid (Below w.heap.size w w12) := B11.out.grown hg B11.out.size (fun j hj => by cases hj; exact HX.out)
  clear hg G11 V11 R11 B11
  have e12 : ((1 + 5 * len0 : Nat) : Int) = 1 + 5 * (len0 : Int) := by omega
  rw [e12]
  clear e12
  go_wp2_with fail
  refine (eq_own w12 _ _ v1 v0 gs G12.out V12.out).mono ?_
  rintro e w13 ⟨rfl, hb⟩
  have G13 : Hid (M.Own w13 Y 31 v1 gs) := G12.out.below hb
  have V13 : Hid (M.Own w13 Z0 31 v0 gs) := V12.out.below hb
  have B13 : Hid (Below w.heap.size w w13) := B12.out.trans (hb.mono B12.out.size)
  clear hb G12 V12 B12
  go_wp2_with fail
  refine (mark_own w13 Y v1 gs 1 G13.out (by omega) (by omega) (by omega)).mono ?_
  rintro e w14 ⟨rfl, hown, hg⟩
  have G14 : Hid (M.Own w14 Y 31 v1 (M.marks gs.length 1)) := hown
  have V14 : Hid (M.Own w14 Z0 31 v0 gs) := World.ownsRow.kept V13.out hg (by
    cases hv0 : v0.ownBlock with
    | none => exact .inl rfl
    | some j => exact .inr (fun e => by have h1 := HV0.out j hv0; have h2 := G13.out.block j e.symm; have := HX6.out; omega))
  have B14 : Hid (Below w.heap.size w w14) := B13.out.grown hg B13.out.size (fun j hj => Nat.le_trans HW6.out (G13.out.block j hj))
  clear hown hg G13 V13 B13
  have HN : Hid (∀ W, M.Own W Y 31 v1 (M.marks gs.length 1) → Calls Tryd.prog 20 #[v1, .int .i64 1] W fun e w' => e = .returned (.int .i64 ((1 + 5 * gs.length : Nat) : Int)) ∧ Below W.heap.size W w') := fun W hW => held_own W Y v1 gs.length 1 hW (by omega) (by omega) (by omega)
  generalize hmm : 1 + 5 * gs.length = mm at HN
  have hmm' : mm ≤ 10000 := by omega
  clear hmm
  have dd : ((mm : Int) != (mm : Int)) = false := by simp
  go_wp2_with fail
  refine (HN.out _ G14.out).mono ?_
  rintro e w15 ⟨rfl, hb⟩
  have G15 : Hid (M.Own w15 Y 31 v1 (M.marks gs.length 1)) := G14.out.below hb
  have V15 : Hid (M.Own w15 Z0 31 v0 gs) := V14.out.below hb
  have B15 : Hid (Below w.heap.size w w15) := B14.out.trans (hb.mono B14.out.size)
  clear hb G14 V14 B14
  go_wp2_with fail
  refine (toF_any w15 a0 len0 cap0 fs0 (H0.out.below B15.out) (by omega)).mono ?_
  rintro e w16 ⟨b16, rfl, hf16, hb⟩
  have F16 : Hid (M.Files w16 (some ⟨b16, 0, none⟩) len0 len0 fs0) := hf16
  have G16 : Hid (M.Own w16 Y 31 v1 (M.marks gs.length 1)) := G15.out.below hb
  have V16 : Hid (M.Own w16 Z0 31 v0 gs) := V15.out.below hb
  have B16 : Hid (Below w.heap.size w w16) := B15.out.trans (hb.mono B15.out.size)
  clear hf16 hb G15 V15 B15
  go_wp2_with fail
  refine (iDrop_any w16 (some ⟨b16, 0, none⟩) len0 len0 fs0 p F16.out O0.out HSZ.out hp' (M.ml_below HM.out B16.out)).mono ?_
  rintro e w17 ⟨v2, gs'', rfl, hown, hdr, hb⟩
  obtain rfl : gs = gs'' := HD.out.unique hdr
  have K17 : Hid (M.Own w17 w16.heap.size 31 v2 gs) := hown
  have G17 : Hid (M.Own w17 Y 31 v1 (M.marks gs.length 1)) := G16.out.below hb
  have V17 : Hid (M.Own w17 Z0 31 v0 gs) := V16.out.below hb
  have B17 : Hid (Below w.heap.size w w17) := B16.out.trans (hb.mono B16.out.size)
  clear hown hdr hb G16 V16 B16 F16
  go_wp2_with fail
  refine (eq_own w17 _ _ v2 v0 gs K17.out V17.out).mono ?_
  rintro e w18 ⟨rfl, hb⟩
  have G18 : Hid (M.Own w18 Y 31 v1 (M.marks gs.length 1)) := G17.out.below hb
  have B18 : Hid (Below w.heap.size w w18) := B17.out.trans (hb.mono B17.out.size)
  clear hb G17 V17 B17 K17
  go_wp2_with fail
  refine (HN.out _ G18.out).mono ?_
  rintro e w19 ⟨rfl, hb⟩
  have B19 : Hid (Below w.heap.size w w19) := B18.out.trans (hb.mono B18.out.size)
  clear hb G18 B18
  go_wp2
  go_ret
  exact ⟨rfl, B19.out⟩
end Go.Proofs.YtbmbcfnlpbbapagDoor
