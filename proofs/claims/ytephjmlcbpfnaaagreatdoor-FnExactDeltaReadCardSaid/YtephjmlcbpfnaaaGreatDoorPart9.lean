/-
  What l02File of the specification and fileRight of the program do: both tell whether a file is right.
-/
import Derived.Test.YtephjmlcbpfnaaaGreatDoorPart6
import Derived.Test.YtephjmlcbpfnaaaGreatDoorPart8
import Derived.Test.YtephjmlcbpfnaaaGreatDoorIPathWalk
import Derived.Test.YtephjmlcbpfnaaaGreatDoorITime
import Derived.Test.YtephjmlcbpfnaaaGreatDoorPart7
import Derived.Test.YtephjmlcbpfnaaaGreatDoorWide
import Derived.WalkKit
import Derived.WalkSpells
import Derived.WalkLawsBesides
namespace Go.Proofs.YtephjmlcbpfnaaaGreatDoor
open Go.RowKit

theorem M.boxed {w w1 : World} {T : TypeId} {vs : Array Value} (hb : Below (w.alloc (.cells vs T)).heap.size (w.alloc (.cells vs T)) w1) (i : Nat) (v : Value) (h : vs[i]? = some v) : w1.cell? ⟨w.heap.size, i, none⟩ = some v := by
  rw [hb.cell (p := ⟨w.heap.size, i, none⟩) (by simp)]
  simp only [World.cell?, heap_alloc_new]
  simpa using h
theorem M.boxed_below {w w1 : World} {o : Obj} (hb : Below (w.alloc o).heap.size (w.alloc o) w1) : Below w.heap.size w w1 :=
  ((Below.refl _ w).alloc (Nat.le_refl _) o).trans (hb.mono (by simp))
theorem M.fileR_of {f : M.FileD} {b1 b2 b3 b4 b5 : Bool} (h1 : M.pathR f.path = b1) (h2 : decide (0 ≤ f.mode ∧ f.mode ≤ 4095) = b2) (h3 : decide (0 ≤ f.time ∧ f.time ≤ 1000000000) = b3) (h4 : decide (f.data.size ≤ 1200) = b4) (h5 : (!f.dir || decide (f.data.size = 0)) = b5) :
    M.fileR f = (b1 && b2 && b3 && b4 && b5) := by unfold M.fileR; rw [h1, h2, h3, h4, h5]
theorem M.empty_of {x : ByteArray} (h : x.size = 0) : x = ⟨#[]⟩ := by
  apply ByteArray.ext
  exact Array.eq_empty_of_size_eq_zero h
theorem M.not_empty {x : ByteArray} (h : ¬ x.size = 0) : (x.toList == []) = false := by
  rw [beq_eq_false_iff_ne]
  intro e
  apply h
  rw [Lib.size_eq, ← ByteArray.toList_eq, e]; rfl


set_option maxRecDepth 100000 in
set_option maxHeartbeats 3200000 in
theorem sFile_any (f : M.FileD) (w : World) (hok : M.fok f) :
    Calls Tryz.prog 85 #[M.fval f] w fun e w' => e = .returned (.bool (M.fileR f)) ∧ Below w.heap.size w w' := by
  obtain ⟨k1, k2, k3, k4, k5, k6⟩ := hok
  have hmu := M.fileR_of (f := f) rfl rfl rfl rfl rfl
  generalize M.fileR f = R at hmu ⊢
  obtain ⟨p, d, m, t, x⟩ := f
  simp only at k1 k2 k3 k4 k5 k6 hmu
  unfold M.fval
  simp only
  have kx : x.size ≤ 9223372036854775807 := by unfold maxLen at k2; omega
  have HP : Hid (∀ W, Below w.heap.size w W → Calls Tryz.prog 50 #[.string p] W fun e w' => e = .returned (.bool (M.pathR p)) ∧ Below W.heap.size W w') := fun W hW => sPath_any p W k1
  have HM : Hid (∀ W, Calls Tryz.prog 124 #[.int .i64 m, .int .i64 0, .int .i64 4095] W fun e w' => e = .returned (.bool (decide (0 ≤ m ∧ m ≤ 4095))) ∧ W = w') := fun W => sIs_any m 0 4095 W
  have HT : Hid (∀ W, Calls Tryz.prog 125 #[.int .i64 t] W fun e w' => e = .returned (.bool (decide (0 ≤ t ∧ t ≤ 1000000000))) ∧ W = w') := fun W => sTime_any t W
  clear k1 k2
  generalize M.pathR p = b1 at HP hmu
  generalize hb2 : decide (0 ≤ m ∧ m ≤ 4095) = b2 at hmu HM
  generalize decide (0 ≤ t ∧ t ≤ 1000000000) = b3 at hmu HT
  have HU : Hid (R = (b1 && b2 && b3 && decide (x.size ≤ 1200) && (!d || decide (x.size = 0)))) := hmu
  clear hmu
  clear hb2
  cases b1
  case false =>
    have hR0 : R = false := by have := HU.out; simpa using this
    have hR : Hid (R = false) := hR0
    clear HU hR0
    go_enter Tryz.func85, Tryz.ntmps85
    go_wp2_with fail
    refine (HP.out _ ((Below.refl _ w).alloc (Nat.le_refl _) _)).mono ?_
    rintro e w1 ⟨rfl, hb⟩
    have g0 := M.boxed hb 0 _ rfl
    have g1 := M.boxed hb 1 _ rfl
    have g2 := M.boxed hb 2 _ rfl
    have g3 := M.boxed hb 3 _ rfl
    have g4 := M.boxed hb 4 _ rfl
    have B1 : Hid (Below w.heap.size w w1) := M.boxed_below hb
    clear hb
    go_wp2_with (first | (go_at_call 124; refine (HM.out _).mono ?_; rintro e w2 ⟨rfl, rfl⟩) | (go_at_call 125; refine (HT.out _).mono ?_; rintro e w3 ⟨rfl, rfl⟩))
    go_ret
    exact ⟨by first | rfl | (rw [hR.out]; rfl), B1.out⟩
  cases b2
  case false =>
    have hR0 : R = false := by have := HU.out; simpa using this
    have hR : Hid (R = false) := hR0
    clear HU hR0
    go_enter Tryz.func85, Tryz.ntmps85
    go_wp2_with fail
    refine (HP.out _ ((Below.refl _ w).alloc (Nat.le_refl _) _)).mono ?_
    rintro e w1 ⟨rfl, hb⟩
    have g0 := M.boxed hb 0 _ rfl
    have g1 := M.boxed hb 1 _ rfl
    have g2 := M.boxed hb 2 _ rfl
    have g3 := M.boxed hb 3 _ rfl
    have g4 := M.boxed hb 4 _ rfl
    have B1 : Hid (Below w.heap.size w w1) := M.boxed_below hb
    clear hb
    go_wp2_with (first | (go_at_call 124; refine (HM.out _).mono ?_; rintro e w2 ⟨rfl, rfl⟩) | (go_at_call 125; refine (HT.out _).mono ?_; rintro e w3 ⟨rfl, rfl⟩))
    go_ret
    exact ⟨by first | rfl | (rw [hR.out]; rfl), B1.out⟩
  cases b3
  case false =>
    have hR0 : R = false := by have := HU.out; simpa using this
    have hR : Hid (R = false) := hR0
    clear HU hR0
    go_enter Tryz.func85, Tryz.ntmps85
    go_wp2_with fail
    refine (HP.out _ ((Below.refl _ w).alloc (Nat.le_refl _) _)).mono ?_
    rintro e w1 ⟨rfl, hb⟩
    have g0 := M.boxed hb 0 _ rfl
    have g1 := M.boxed hb 1 _ rfl
    have g2 := M.boxed hb 2 _ rfl
    have g3 := M.boxed hb 3 _ rfl
    have g4 := M.boxed hb 4 _ rfl
    have B1 : Hid (Below w.heap.size w w1) := M.boxed_below hb
    clear hb
    go_wp2_with (first | (go_at_call 124; refine (HM.out _).mono ?_; rintro e w2 ⟨rfl, rfl⟩) | (go_at_call 125; refine (HT.out _).mono ?_; rintro e w3 ⟨rfl, rfl⟩))
    go_ret
    exact ⟨by first | rfl | (rw [hR.out]; rfl), B1.out⟩
  by_cases h4 : 1200 < x.size
  ·
    have hR0 : R = false := by have := HU.out; simpa [show ¬ x.size ≤ 1200 by omega] using this
    have hR : Hid (R = false) := hR0
    clear HU hR0
    have d4 : decide ((x.size : Int) ≤ 1200) = false := decide_eq_false (by omega)
    go_enter Tryz.func85, Tryz.ntmps85
    go_wp2_with fail
    refine (HP.out _ ((Below.refl _ w).alloc (Nat.le_refl _) _)).mono ?_
    rintro e w1 ⟨rfl, hb⟩
    have g0 := M.boxed hb 0 _ rfl
    have g1 := M.boxed hb 1 _ rfl
    have g2 := M.boxed hb 2 _ rfl
    have g3 := M.boxed hb 3 _ rfl
    have g4 := M.boxed hb 4 _ rfl
    have B1 : Hid (Below w.heap.size w w1) := M.boxed_below hb
    clear hb
    go_wp2_with (first | (go_at_call 124; refine (HM.out _).mono ?_; rintro e w2 ⟨rfl, rfl⟩) | (go_at_call 125; refine (HT.out _).mono ?_; rintro e w3 ⟨rfl, rfl⟩))
    go_ret
    exact ⟨by first | rfl | (rw [hR.out]; rfl), B1.out⟩
  have d4 : decide ((x.size : Int) ≤ 1200) = true := decide_eq_true (by omega)
  cases d
  case false =>
    have hR0 : R = true := by have := HU.out; simpa [show x.size ≤ 1200 by omega] using this
    have hR : Hid (R = true) := hR0
    clear HU hR0
    go_enter Tryz.func85, Tryz.ntmps85
    go_wp2_with fail
    refine (HP.out _ ((Below.refl _ w).alloc (Nat.le_refl _) _)).mono ?_
    rintro e w1 ⟨rfl, hb⟩
    have g0 := M.boxed hb 0 _ rfl
    have g1 := M.boxed hb 1 _ rfl
    have g2 := M.boxed hb 2 _ rfl
    have g3 := M.boxed hb 3 _ rfl
    have g4 := M.boxed hb 4 _ rfl
    have B1 : Hid (Below w.heap.size w w1) := M.boxed_below hb
    clear hb
    go_wp2_with (first | (go_at_call 124; refine (HM.out _).mono ?_; rintro e w2 ⟨rfl, rfl⟩) | (go_at_call 125; refine (HT.out _).mono ?_; rintro e w3 ⟨rfl, rfl⟩))
    go_ret
    exact ⟨by first | rfl | (rw [hR.out]; rfl), B1.out⟩
  by_cases h5 : x.size = 0
  ·
    have hR0 : R = true := by have := HU.out; simpa [h5] using this
    have hR : Hid (R = true) := hR0
    clear HU hR0
    obtain rfl := M.empty_of h5
    clear h5
    go_enter Tryz.func85, Tryz.ntmps85
    go_wp2_with fail
    refine (HP.out _ ((Below.refl _ w).alloc (Nat.le_refl _) _)).mono ?_
    rintro e w1 ⟨rfl, hb⟩
    have g0 := M.boxed hb 0 _ rfl
    have g1 := M.boxed hb 1 _ rfl
    have g2 := M.boxed hb 2 _ rfl
    have g3 := M.boxed hb 3 _ rfl
    have g4 := M.boxed hb 4 _ rfl
    have B1 : Hid (Below w.heap.size w w1) := M.boxed_below hb
    clear hb
    go_wp2_with (first | (go_at_call 124; refine (HM.out _).mono ?_; rintro e w2 ⟨rfl, rfl⟩) | (go_at_call 125; refine (HT.out _).mono ?_; rintro e w3 ⟨rfl, rfl⟩))
    go_ret
    exact ⟨by first | rfl | (rw [hR.out]; rfl), B1.out⟩
  ·
    have hR0 : R = false := by have := HU.out; simpa [h5] using this
    have hR : Hid (R = false) := hR0
    clear HU hR0
    have d5 := M.not_empty h5
    go_enter Tryz.func85, Tryz.ntmps85
    go_wp2_with fail
    refine (HP.out _ ((Below.refl _ w).alloc (Nat.le_refl _) _)).mono ?_
    rintro e w1 ⟨rfl, hb⟩
    have g0 := M.boxed hb 0 _ rfl
    have g1 := M.boxed hb 1 _ rfl
    have g2 := M.boxed hb 2 _ rfl
    have g3 := M.boxed hb 3 _ rfl
    have g4 := M.boxed hb 4 _ rfl
    have B1 : Hid (Below w.heap.size w w1) := M.boxed_below hb
    clear hb
    go_wp2_with (first | (go_at_call 124; refine (HM.out _).mono ?_; rintro e w2 ⟨rfl, rfl⟩) | (go_at_call 125; refine (HT.out _).mono ?_; rintro e w3 ⟨rfl, rfl⟩))
    go_ret
    exact ⟨by first | rfl | (rw [hR.out]; rfl), B1.out⟩

set_option maxRecDepth 100000 in
set_option maxHeartbeats 3200000 in
theorem iFile_any (f : M.FileD) (w : World) (hok : M.fok f) (hm : M.ml w) :
    Calls Tryz.prog 72 #[M.fval f] w fun e w' => e = .returned (.bool (M.fileR f)) ∧ Below w.heap.size w w' := by
  obtain ⟨k1, k2, k3, k4, k5, k6⟩ := hok
  have hmu := M.fileR_of (f := f) rfl rfl rfl rfl rfl
  generalize M.fileR f = R at hmu ⊢
  obtain ⟨p, d, m, t, x⟩ := f
  simp only at k1 k2 k3 k4 k5 k6 hmu
  unfold M.fval
  simp only
  have kx : x.size ≤ 9223372036854775807 := by unfold maxLen at k2; omega
  have HP : Hid (∀ W, Below w.heap.size w W → Calls Tryz.prog 87 #[.string p] W fun e w' => e = .returned (.bool (M.pathR p)) ∧ Below W.heap.size W w') := fun W hW => iPath_any p W k1 (M.ml_below hm hW)
  have HT : Hid (∀ W, Calls Tryz.prog 95 #[.int .i64 t] W fun e w' => e = .returned (.bool (decide (0 ≤ t ∧ t ≤ 1000000000))) ∧ W = w') := fun W => iTime_any t W
  clear hm
  clear k1 k2
  generalize M.pathR p = b1 at HP hmu
  generalize hb2 : decide (0 ≤ m ∧ m ≤ 4095) = b2 at hmu
  generalize decide (0 ≤ t ∧ t ≤ 1000000000) = b3 at hmu HT
  have HU : Hid (R = (b1 && b2 && b3 && decide (x.size ≤ 1200) && (!d || decide (x.size = 0)))) := hmu
  clear hmu
  cases b1
  case false =>
    have hR0 : R = false := by have := HU.out; simpa using this
    have hR : Hid (R = false) := hR0
    clear HU hR0
    clear hb2
    go_enter Tryz.func72, Tryz.ntmps72
    go_wp2_with fail
    refine (HP.out _ ((Below.refl _ w).alloc (Nat.le_refl _) _)).mono ?_
    rintro e w1 ⟨rfl, hb⟩
    have g0 := M.boxed hb 0 _ rfl
    have g1 := M.boxed hb 1 _ rfl
    have g2 := M.boxed hb 2 _ rfl
    have g3 := M.boxed hb 3 _ rfl
    have g4 := M.boxed hb 4 _ rfl
    have B1 : Hid (Below w.heap.size w w1) := M.boxed_below hb
    clear hb
    go_wp2_with (go_at_call 95; refine (HT.out _).mono ?_; rintro e w3 ⟨rfl, rfl⟩)
    go_ret
    exact ⟨by first | rfl | (rw [hR.out]; rfl), B1.out⟩
  by_cases m1 : m < 0
  · obtain rfl : b2 = false := by rw [← hb2]; exact decide_eq_false (by omega)
    have hR0 : R = false := by have := HU.out; simpa using this
    have hR : Hid (R = false) := hR0
    clear HU hR0
    clear hb2
    have e1 : decide (m < 0) = true := decide_eq_true m1
    go_enter Tryz.func72, Tryz.ntmps72
    go_wp2_with fail
    refine (HP.out _ ((Below.refl _ w).alloc (Nat.le_refl _) _)).mono ?_
    rintro e w1 ⟨rfl, hb⟩
    have g0 := M.boxed hb 0 _ rfl
    have g1 := M.boxed hb 1 _ rfl
    have g2 := M.boxed hb 2 _ rfl
    have g3 := M.boxed hb 3 _ rfl
    have g4 := M.boxed hb 4 _ rfl
    have B1 : Hid (Below w.heap.size w w1) := M.boxed_below hb
    clear hb
    go_wp2_with (go_at_call 95; refine (HT.out _).mono ?_; rintro e w3 ⟨rfl, rfl⟩)
    go_ret
    exact ⟨by first | rfl | (rw [hR.out]; rfl), B1.out⟩
  have e1 : decide (m < 0) = false := decide_eq_false m1
  by_cases m2 : 4095 < m
  · obtain rfl : b2 = false := by rw [← hb2]; exact decide_eq_false (by omega)
    have hR0 : R = false := by have := HU.out; simpa using this
    have hR : Hid (R = false) := hR0
    clear HU hR0
    clear hb2
    have e2 : decide (4095 < m) = true := decide_eq_true m2
    go_enter Tryz.func72, Tryz.ntmps72
    go_wp2_with fail
    refine (HP.out _ ((Below.refl _ w).alloc (Nat.le_refl _) _)).mono ?_
    rintro e w1 ⟨rfl, hb⟩
    have g0 := M.boxed hb 0 _ rfl
    have g1 := M.boxed hb 1 _ rfl
    have g2 := M.boxed hb 2 _ rfl
    have g3 := M.boxed hb 3 _ rfl
    have g4 := M.boxed hb 4 _ rfl
    have B1 : Hid (Below w.heap.size w w1) := M.boxed_below hb
    clear hb
    go_wp2_with (go_at_call 95; refine (HT.out _).mono ?_; rintro e w3 ⟨rfl, rfl⟩)
    go_ret
    exact ⟨by first | rfl | (rw [hR.out]; rfl), B1.out⟩
  have e2 : decide (4095 < m) = false := decide_eq_false m2
  obtain rfl : b2 = true := by rw [← hb2]; exact decide_eq_true (by omega)
  clear hb2
  cases b3
  case false =>
    have hR0 : R = false := by have := HU.out; simpa using this
    have hR : Hid (R = false) := hR0
    clear HU hR0
    go_enter Tryz.func72, Tryz.ntmps72
    go_wp2_with fail
    refine (HP.out _ ((Below.refl _ w).alloc (Nat.le_refl _) _)).mono ?_
    rintro e w1 ⟨rfl, hb⟩
    have g0 := M.boxed hb 0 _ rfl
    have g1 := M.boxed hb 1 _ rfl
    have g2 := M.boxed hb 2 _ rfl
    have g3 := M.boxed hb 3 _ rfl
    have g4 := M.boxed hb 4 _ rfl
    have B1 : Hid (Below w.heap.size w w1) := M.boxed_below hb
    clear hb
    go_wp2_with (go_at_call 95; refine (HT.out _).mono ?_; rintro e w3 ⟨rfl, rfl⟩)
    go_ret
    exact ⟨by first | rfl | (rw [hR.out]; rfl), B1.out⟩
  cases d
  case false =>
    by_cases h4 : 1200 < x.size
    ·
      have hR0 : R = false := by have := HU.out; simpa [show ¬ x.size ≤ 1200 by omega] using this
      have hR : Hid (R = false) := hR0
      clear HU hR0
      have d4 : decide ((x.size : Int) ≤ 1200) = false := decide_eq_false (by omega)
      go_enter Tryz.func72, Tryz.ntmps72
      go_wp2_with fail
      refine (HP.out _ ((Below.refl _ w).alloc (Nat.le_refl _) _)).mono ?_
      rintro e w1 ⟨rfl, hb⟩
      have g0 := M.boxed hb 0 _ rfl
      have g1 := M.boxed hb 1 _ rfl
      have g2 := M.boxed hb 2 _ rfl
      have g3 := M.boxed hb 3 _ rfl
      have g4 := M.boxed hb 4 _ rfl
      have B1 : Hid (Below w.heap.size w w1) := M.boxed_below hb
      clear hb
      go_wp2_with (go_at_call 95; refine (HT.out _).mono ?_; rintro e w3 ⟨rfl, rfl⟩)
      go_ret
      exact ⟨by first | rfl | (rw [hR.out]; rfl), B1.out⟩
    ·
      have hR0 : R = true := by have := HU.out; simpa [show x.size ≤ 1200 by omega] using this
      have hR : Hid (R = true) := hR0
      clear HU hR0
      have d4 : decide ((x.size : Int) ≤ 1200) = true := decide_eq_true (by omega)
      go_enter Tryz.func72, Tryz.ntmps72
      go_wp2_with fail
      refine (HP.out _ ((Below.refl _ w).alloc (Nat.le_refl _) _)).mono ?_
      rintro e w1 ⟨rfl, hb⟩
      have g0 := M.boxed hb 0 _ rfl
      have g1 := M.boxed hb 1 _ rfl
      have g2 := M.boxed hb 2 _ rfl
      have g3 := M.boxed hb 3 _ rfl
      have g4 := M.boxed hb 4 _ rfl
      have B1 : Hid (Below w.heap.size w w1) := M.boxed_below hb
      clear hb
      go_wp2_with (go_at_call 95; refine (HT.out _).mono ?_; rintro e w3 ⟨rfl, rfl⟩)
      go_ret
      exact ⟨by first | rfl | (rw [hR.out]; rfl), B1.out⟩
  by_cases h5 : x.size = 0
  ·
    have hR0 : R = true := by have := HU.out; simpa [h5] using this
    have hR : Hid (R = true) := hR0
    clear HU hR0
    obtain rfl := M.empty_of h5
    clear h5
    go_enter Tryz.func72, Tryz.ntmps72
    go_wp2_with fail
    refine (HP.out _ ((Below.refl _ w).alloc (Nat.le_refl _) _)).mono ?_
    rintro e w1 ⟨rfl, hb⟩
    have g0 := M.boxed hb 0 _ rfl
    have g1 := M.boxed hb 1 _ rfl
    have g2 := M.boxed hb 2 _ rfl
    have g3 := M.boxed hb 3 _ rfl
    have g4 := M.boxed hb 4 _ rfl
    have B1 : Hid (Below w.heap.size w w1) := M.boxed_below hb
    clear hb
    go_wp2_with (go_at_call 95; refine (HT.out _).mono ?_; rintro e w3 ⟨rfl, rfl⟩)
    go_ret
    exact ⟨by first | rfl | (rw [hR.out]; rfl), B1.out⟩
  ·
    have hR0 : R = false := by have := HU.out; simpa [h5] using this
    have hR : Hid (R = false) := hR0
    clear HU hR0
    have d5 := M.not_empty h5
    go_enter Tryz.func72, Tryz.ntmps72
    go_wp2_with fail
    refine (HP.out _ ((Below.refl _ w).alloc (Nat.le_refl _) _)).mono ?_
    rintro e w1 ⟨rfl, hb⟩
    have g0 := M.boxed hb 0 _ rfl
    have g1 := M.boxed hb 1 _ rfl
    have g2 := M.boxed hb 2 _ rfl
    have g3 := M.boxed hb 3 _ rfl
    have g4 := M.boxed hb 4 _ rfl
    have B1 : Hid (Below w.heap.size w w1) := M.boxed_below hb
    clear hb
    go_wp2_with (go_at_call 95; refine (HT.out _).mono ?_; rintro e w3 ⟨rfl, rfl⟩)
    go_ret
    exact ⟨by first | rfl | (rw [hR.out]; rfl), B1.out⟩
end Go.Proofs.YtephjmlcbpfnaaaGreatDoor

/-
  What l03File of the specification does at a right file.
-/
namespace Go.Proofs.YtephjmlcbpfnaaaGreatDoor
open Go.RowKit

theorem M.nil_app (x : ByteArray) : (⟨#[]⟩ : ByteArray) ++ x = x := by
  apply ByteArray.ext; simp [ByteArray.data_append]

set_option maxRecDepth 100000 in
set_option maxHeartbeats 1600000 in
theorem sEntry_any (f : M.FileD) (w : World) (hp : f.path.size ≤ 150) (hm : 0 ≤ f.mode ∧ f.mode ≤ 4095) (ht : 0 ≤ f.time ∧ f.time ≤ 1000000000) (hd : f.data.size ≤ 1200) :
    Calls Tryz.prog 147 #[M.fval f] w fun e w' => e = .returned (.string (M.entryB f)) ∧ Below w.heap.size w w' := by
  obtain ⟨path, dir, mode, time, data⟩ := f
  obtain ⟨m, rfl⟩ : ∃ m : Nat, mode = m := ⟨mode.toNat, by simp only at hm; omega⟩
  obtain ⟨n, rfl⟩ : ∃ n : Nat, time = n := ⟨time.toNat, by simp only at ht; omega⟩
  simp only at hp hm ht hd
  have HHd : Hid (∀ (name : ByteArray) (s k : Nat) W, name.size ≤ 100 → s ≤ 9000 → k ≤ 255 → Calls Tryz.prog 171 #[.string name, .int .i64 s, .int .i64 m, .int .i64 n, .int .i64 k] W fun e w' => e = .returned (.string (M.head name s m n k)) ∧ Below W.heap.size W w') := fun name s k W a b c => sHeader_any name s m n k W a (by omega) (by omega) (by omega) c
  have HPx : Hid (∀ (s : Nat) W, s ≤ 9000 → Calls Tryz.prog 171 #[.string ⟨#[112, 97, 120]⟩, .int .i64 s, .int .i64 420, .int .i64 0, .int .i64 120] W fun e w' => e = .returned (.string (M.head ⟨#[112, 97, 120]⟩ s 420 0 120)) ∧ Below W.heap.size W w') := fun s W a => sHeader_any ⟨#[112, 97, 120]⟩ s 420 0 120 W (by decide) (by omega) (by decide) (by decide) (by decide)
  have HFl : Hid (∀ (t : ByteArray) W, t.size ≤ 100000 → Calls Tryz.prog 172 #[.string t] W fun e w' => e = .returned (.string (M.fillB t)) ∧ Below W.heap.size W w') := fun t W a => sFill_any t W a
  have HRc : Hid (∀ (t : ByteArray) W, 100 < t.size → t.size ≤ 900 → Calls Tryz.prog 170 #[.string t] W fun e w' => e = .returned (.string (M.recB t)) ∧ Below W.heap.size W w') := fun t W a b => sRec_any t W a b
  have hfd := M.fillB_le hd
  obtain ⟨fd, hfe⟩ : ∃ fd, fd = M.fillB data := ⟨_, rfl⟩
  have HFD : Hid (fd = M.fillB data) := hfe
  rw [← hfe] at hfd
  clear hfe
  cases dir
  · show Calls Tryz.prog 147 #[.agg #[.string path, .bool false, .int .i64 (m : Int), .int .i64 (n : Int), .string data]] w _
    have HNM : Hid (path = M.fullB path false) := rfl
    have hnm : path.size ≤ 151 := by rw [HNM.out]; exact M.fullB_size path false hp
    by_cases hl : 100 < path.size
    · have HEn : Hid (M.entryB ⟨path, false, (m : Int), (n : Int), data⟩ = M.paxB path ++ M.head (path.extract 0 100) data.size m n 48 ++ fd) := by
        show _ = _
        unfold M.entryB
        simp only
        rw [← HNM.out, if_pos hl, if_pos hl, HFD.out]
        rfl
      have hx : (path.extract 0 100).size = 100 := by rw [ByteArray.size_extract]; omega
      obtain ⟨r, hr⟩ : ∃ r, r = M.recB path := ⟨_, rfl⟩
      have HRE : Hid (r = M.recB path) := hr
      have hrs : r.size ≤ 900 := by rw [hr, M.recB_size (by omega) (by omega)]; omega
      clear hr
      go_enter Tryz.func147, Tryz.ntmps147
      go_wp2_with fail
      refine (HRc.out path _ hl (by omega)).mono ?_
      rintro e w1 ⟨rfl, hb1⟩
      rw [← HRE.out]
      have HB1 : Hid (Below (w.alloc (.cells #[.string path, .bool false, .int .i64 (m : Int), .int .i64 (n : Int), .string data] 54)).heap.size (w.alloc (.cells #[.string path, .bool false, .int .i64 (m : Int), .int .i64 (n : Int), .string data] 54)) w1) := hb1
      clear hb1
      go_wp2_with fail
      refine (HPx.out r.size _ (by omega)).mono ?_
      rintro e w2 ⟨rfl, hb2⟩
      have HB2 : Hid (Below (w.alloc (.cells #[.string path, .bool false, .int .i64 (m : Int), .int .i64 (n : Int), .string data] 54)).heap.size (w.alloc (.cells #[.string path, .bool false, .int .i64 (m : Int), .int .i64 (n : Int), .string data] 54)) w2) := M.s1' HB1.out hb2
      have hh : (M.head ⟨#[112, 97, 120]⟩ r.size 420 0 120).size = 512 := M.head_size (by decide) (by decide) (by omega) (by decide)
      obtain ⟨h1, hh1⟩ : ∃ h1, h1 = M.head ⟨#[112, 97, 120]⟩ r.size 420 0 120 := ⟨_, rfl⟩
      have HH1 : Hid (h1 = M.head ⟨#[112, 97, 120]⟩ r.size 420 0 120) := hh1
      rw [← hh1] at hh ⊢
      clear hb2 HB1 hh1
      go_wp2_with fail
      refine (HFl.out r _ (by omega)).mono ?_
      rintro e w3 ⟨rfl, hb3⟩
      have HB3 : Hid (Below (w.alloc (.cells #[.string path, .bool false, .int .i64 (m : Int), .int .i64 (n : Int), .string data] 54)).heap.size (w.alloc (.cells #[.string path, .bool false, .int .i64 (m : Int), .int .i64 (n : Int), .string data] 54)) w3) := M.s1' HB2.out hb3
      have hpx : Hid (h1 ++ M.fillB r = M.paxB path) := by show _ = _; rw [HH1.out, HRE.out]; rfl
      have hps : (M.paxB path).size = 1024 := M.paxB_size hl hnm
      have hfs : (M.fillB r).size ≤ 1024 := by have := congrArg ByteArray.size hpx.out; rw [ByteArray.size_append] at this; omega
      obtain ⟨fr, hfr⟩ : ∃ fr, fr = M.fillB r := ⟨_, rfl⟩
      rw [← hfr] at hfs hpx ⊢
      obtain ⟨px, hpx2⟩ : ∃ px, px = M.paxB path := ⟨_, rfl⟩
      rw [← hpx2] at hps hpx HEn
      have hpx' := hpx.out
      clear hb3 HB2 hfr hpx2
      have HB0 : Hid (Below w.heap.size w w3) := M.boxed_below HB3.out
      have HC0 : Hid (w3.cell? ⟨w.heap.size, 2, none⟩ = some (.int .i64 (m : Int)) ∧ w3.cell? ⟨w.heap.size, 3, none⟩ = some (.int .i64 (n : Int)) ∧ w3.cell? ⟨w.heap.size, 4, none⟩ = some (.string data)) := ⟨M.boxed HB3.out 2 _ rfl, M.boxed HB3.out 3 _ rfl, M.boxed HB3.out 4 _ rfl⟩
      go_wp2_with fail
      have q2 : ∀ x : M.Wd w3, x.val.cell? ⟨w.heap.size, 2, none⟩ = some (.int .i64 (m : Int)) := M.Wd.cell HC0.out.1
      have q3 : ∀ x : M.Wd w3, x.val.cell? ⟨w.heap.size, 3, none⟩ = some (.int .i64 (n : Int)) := M.Wd.cell HC0.out.2.1
      have q4 : ∀ x : M.Wd w3, x.val.cell? ⟨w.heap.size, 4, none⟩ = some (.string data) := M.Wd.cell HC0.out.2.2
      have HX : Hid (∀ x : M.Wd w3, Below w.heap.size w x.val) := fun x => M.s1' HB0.out x.bel
      have hhs : (M.head (path.extract 0 100) data.size m n 48).size = 512 := M.head_size (by omega) (by omega) (by omega) (by omega)
      have C1 : Hid (∀ x : M.Wd w3, Calls Tryz.prog 171 #[.string (path.extract 0 100), .int .i64 data.size, .int .i64 m, .int .i64 n, .int .i64 48] x.val fun e w' => e = .returned (.string (M.head (path.extract 0 100) data.size m n 48)) ∧ Below x.val.heap.size x.val w') := fun x => HHd.out (path.extract 0 100) data.size 48 x.val (by omega) (by omega) (by decide)
      have C2 : Hid (∀ x : M.Wd w3, Calls Tryz.prog 172 #[.string data] x.val fun e w' => e = .returned (.string fd) ∧ Below x.val.heap.size x.val w') := fun x => by rw [HFD.out]; exact HFl.out data x.val (by omega)
      obtain ⟨h2, hh2⟩ : ∃ h2, h2 = M.head (path.extract 0 100) data.size m n 48 := ⟨_, rfl⟩
      rw [← hh2] at hhs C1 HEn
      clear hh2
      refine M.wp_region_wd (by kernel_rfl) (by kernel_rfl) (fun _ => ?_)
      repeat (first | go_big_quiet_skip | (go_big_quiet_want; go_big_quiet_op; first | go_big_quiet_on | (apply Exists.intro; refine ⟨fun x => ?_, ?_⟩; (first | exact M.Wd.call x (C1.out x) | exact M.Wd.call x (C2.out x)); go_big_quiet_on)))
      refine wpQuiet_nil ?_
      intro w9 hw'
      have HB9 : Hid (Below w.heap.size w w9) := by obtain ⟨x, rfl⟩ := hw'; exact HX.out x
      clear hw' q2 q3 q4
      go_wp2
      go_ret
      exact ⟨by rw [HEn.out]; rfl, HB9.out⟩
    · have HEn : Hid (M.entryB ⟨path, false, (m : Int), (n : Int), data⟩ = M.head path data.size m n 48 ++ fd) := by
        show _ = _
        unfold M.entryB
        simp only
        rw [← HNM.out, if_neg hl, if_neg hl, HFD.out, M.nil_app]
        rfl
      have hl' : path.size ≤ 100 := by omega
      have HB1 : Hid (Below (w.alloc (.cells #[.string path, .bool false, .int .i64 (m : Int), .int .i64 (n : Int), .string data] 54)).heap.size (w.alloc (.cells #[.string path, .bool false, .int .i64 (m : Int), .int .i64 (n : Int), .string data] 54)) (w.alloc (.cells #[.string path, .bool false, .int .i64 (m : Int), .int .i64 (n : Int), .string data] 54))) := Below.refl _ _
      go_enter Tryz.func147, Tryz.ntmps147
      have HB0 : Hid (Below w.heap.size w (w.alloc (.cells #[.string path, .bool false, .int .i64 (m : Int), .int .i64 (n : Int), .string data] 54))) := M.boxed_below HB1.out
      have HC0 : Hid ((w.alloc (.cells #[.string path, .bool false, .int .i64 (m : Int), .int .i64 (n : Int), .string data] 54)).cell? ⟨w.heap.size, 2, none⟩ = some (.int .i64 (m : Int)) ∧ (w.alloc (.cells #[.string path, .bool false, .int .i64 (m : Int), .int .i64 (n : Int), .string data] 54)).cell? ⟨w.heap.size, 3, none⟩ = some (.int .i64 (n : Int)) ∧ (w.alloc (.cells #[.string path, .bool false, .int .i64 (m : Int), .int .i64 (n : Int), .string data] 54)).cell? ⟨w.heap.size, 4, none⟩ = some (.string data)) := ⟨M.boxed HB1.out 2 _ rfl, M.boxed HB1.out 3 _ rfl, M.boxed HB1.out 4 _ rfl⟩
      go_wp2_with fail
      have q2 : ∀ x : M.Wd (w.alloc (.cells #[.string path, .bool false, .int .i64 (m : Int), .int .i64 (n : Int), .string data] 54)), x.val.cell? ⟨w.heap.size, 2, none⟩ = some (.int .i64 (m : Int)) := M.Wd.cell HC0.out.1
      have q3 : ∀ x : M.Wd (w.alloc (.cells #[.string path, .bool false, .int .i64 (m : Int), .int .i64 (n : Int), .string data] 54)), x.val.cell? ⟨w.heap.size, 3, none⟩ = some (.int .i64 (n : Int)) := M.Wd.cell HC0.out.2.1
      have q4 : ∀ x : M.Wd (w.alloc (.cells #[.string path, .bool false, .int .i64 (m : Int), .int .i64 (n : Int), .string data] 54)), x.val.cell? ⟨w.heap.size, 4, none⟩ = some (.string data) := M.Wd.cell HC0.out.2.2
      have HX : Hid (∀ x : M.Wd (w.alloc (.cells #[.string path, .bool false, .int .i64 (m : Int), .int .i64 (n : Int), .string data] 54)), Below w.heap.size w x.val) := fun x => M.s1' HB0.out x.bel
      have hhs : (M.head path data.size m n 48).size = 512 := M.head_size (by omega) (by omega) (by omega) (by omega)
      have C1 : Hid (∀ x : M.Wd (w.alloc (.cells #[.string path, .bool false, .int .i64 (m : Int), .int .i64 (n : Int), .string data] 54)), Calls Tryz.prog 171 #[.string path, .int .i64 data.size, .int .i64 m, .int .i64 n, .int .i64 48] x.val fun e w' => e = .returned (.string (M.head path data.size m n 48)) ∧ Below x.val.heap.size x.val w') := fun x => HHd.out path data.size 48 x.val (by omega) (by omega) (by decide)
      have C2 : Hid (∀ x : M.Wd (w.alloc (.cells #[.string path, .bool false, .int .i64 (m : Int), .int .i64 (n : Int), .string data] 54)), Calls Tryz.prog 172 #[.string data] x.val fun e w' => e = .returned (.string fd) ∧ Below x.val.heap.size x.val w') := fun x => by rw [HFD.out]; exact HFl.out data x.val (by omega)
      obtain ⟨h2, hh2⟩ : ∃ h2, h2 = M.head path data.size m n 48 := ⟨_, rfl⟩
      rw [← hh2] at hhs C1 HEn
      clear hh2
      refine M.wp_region_wd (by kernel_rfl) (by kernel_rfl) (fun _ => ?_)
      repeat (first | go_big_quiet_skip | (go_big_quiet_want; go_big_quiet_op; first | go_big_quiet_on | (apply Exists.intro; refine ⟨fun x => ?_, ?_⟩; (first | exact M.Wd.call x (C1.out x) | exact M.Wd.call x (C2.out x)); go_big_quiet_on)))
      refine wpQuiet_nil ?_
      intro w9 hw'
      have HB9 : Hid (Below w.heap.size w w9) := by obtain ⟨x, rfl⟩ := hw'; exact HX.out x
      clear hw' q2 q3 q4
      go_wp2
      go_ret
      exact ⟨by rw [HEn.out]; rfl, HB9.out⟩
  · show Calls Tryz.prog 147 #[.agg #[.string path, .bool true, .int .i64 (m : Int), .int .i64 (n : Int), .string data]] w _
    obtain ⟨nm, hnme⟩ : ∃ nm, nm = path ++ (⟨#[47]⟩ : ByteArray) := ⟨_, rfl⟩
    have HNM : Hid (nm = M.fullB path true) := hnme
    have hnm0 : path ++ (⟨#[47]⟩ : ByteArray) = nm := hnme.symm
    clear hnme
    have hnm : nm.size ≤ 151 := by rw [HNM.out]; exact M.fullB_size path true hp
    by_cases hl : 100 < nm.size
    · have HEn : Hid (M.entryB ⟨path, true, (m : Int), (n : Int), data⟩ = M.paxB nm ++ M.head (nm.extract 0 100) data.size m n 53 ++ fd) := by
        show _ = _
        unfold M.entryB
        simp only
        rw [← HNM.out, if_pos hl, if_pos hl, HFD.out]
        rfl
      have hx : (nm.extract 0 100).size = 100 := by rw [ByteArray.size_extract]; omega
      obtain ⟨r, hr⟩ : ∃ r, r = M.recB nm := ⟨_, rfl⟩
      have HRE : Hid (r = M.recB nm) := hr
      have hrs : r.size ≤ 900 := by rw [hr, M.recB_size (by omega) (by omega)]; omega
      clear hr
      go_enter Tryz.func147, Tryz.ntmps147
      go_wp2_with fail
      refine (HRc.out nm _ hl (by omega)).mono ?_
      rintro e w1 ⟨rfl, hb1⟩
      rw [← HRE.out]
      have HB1 : Hid (Below (w.alloc (.cells #[.string path, .bool true, .int .i64 (m : Int), .int .i64 (n : Int), .string data] 54)).heap.size (w.alloc (.cells #[.string path, .bool true, .int .i64 (m : Int), .int .i64 (n : Int), .string data] 54)) w1) := hb1
      clear hb1
      go_wp2_with fail
      refine (HPx.out r.size _ (by omega)).mono ?_
      rintro e w2 ⟨rfl, hb2⟩
      have HB2 : Hid (Below (w.alloc (.cells #[.string path, .bool true, .int .i64 (m : Int), .int .i64 (n : Int), .string data] 54)).heap.size (w.alloc (.cells #[.string path, .bool true, .int .i64 (m : Int), .int .i64 (n : Int), .string data] 54)) w2) := M.s1' HB1.out hb2
      have hh : (M.head ⟨#[112, 97, 120]⟩ r.size 420 0 120).size = 512 := M.head_size (by decide) (by decide) (by omega) (by decide)
      obtain ⟨h1, hh1⟩ : ∃ h1, h1 = M.head ⟨#[112, 97, 120]⟩ r.size 420 0 120 := ⟨_, rfl⟩
      have HH1 : Hid (h1 = M.head ⟨#[112, 97, 120]⟩ r.size 420 0 120) := hh1
      rw [← hh1] at hh ⊢
      clear hb2 HB1 hh1
      go_wp2_with fail
      refine (HFl.out r _ (by omega)).mono ?_
      rintro e w3 ⟨rfl, hb3⟩
      have HB3 : Hid (Below (w.alloc (.cells #[.string path, .bool true, .int .i64 (m : Int), .int .i64 (n : Int), .string data] 54)).heap.size (w.alloc (.cells #[.string path, .bool true, .int .i64 (m : Int), .int .i64 (n : Int), .string data] 54)) w3) := M.s1' HB2.out hb3
      have hpx : Hid (h1 ++ M.fillB r = M.paxB nm) := by show _ = _; rw [HH1.out, HRE.out]; rfl
      have hps : (M.paxB nm).size = 1024 := M.paxB_size hl hnm
      have hfs : (M.fillB r).size ≤ 1024 := by have := congrArg ByteArray.size hpx.out; rw [ByteArray.size_append] at this; omega
      obtain ⟨fr, hfr⟩ : ∃ fr, fr = M.fillB r := ⟨_, rfl⟩
      rw [← hfr] at hfs hpx ⊢
      obtain ⟨px, hpx2⟩ : ∃ px, px = M.paxB nm := ⟨_, rfl⟩
      rw [← hpx2] at hps hpx HEn
      have hpx' := hpx.out
      clear hb3 HB2 hfr hpx2
      have HB0 : Hid (Below w.heap.size w w3) := M.boxed_below HB3.out
      have HC0 : Hid (w3.cell? ⟨w.heap.size, 2, none⟩ = some (.int .i64 (m : Int)) ∧ w3.cell? ⟨w.heap.size, 3, none⟩ = some (.int .i64 (n : Int)) ∧ w3.cell? ⟨w.heap.size, 4, none⟩ = some (.string data)) := ⟨M.boxed HB3.out 2 _ rfl, M.boxed HB3.out 3 _ rfl, M.boxed HB3.out 4 _ rfl⟩
      go_wp2_with fail
      have q2 : ∀ x : M.Wd w3, x.val.cell? ⟨w.heap.size, 2, none⟩ = some (.int .i64 (m : Int)) := M.Wd.cell HC0.out.1
      have q3 : ∀ x : M.Wd w3, x.val.cell? ⟨w.heap.size, 3, none⟩ = some (.int .i64 (n : Int)) := M.Wd.cell HC0.out.2.1
      have q4 : ∀ x : M.Wd w3, x.val.cell? ⟨w.heap.size, 4, none⟩ = some (.string data) := M.Wd.cell HC0.out.2.2
      have HX : Hid (∀ x : M.Wd w3, Below w.heap.size w x.val) := fun x => M.s1' HB0.out x.bel
      have hhs : (M.head (nm.extract 0 100) data.size m n 53).size = 512 := M.head_size (by omega) (by omega) (by omega) (by omega)
      have C1 : Hid (∀ x : M.Wd w3, Calls Tryz.prog 171 #[.string (nm.extract 0 100), .int .i64 data.size, .int .i64 m, .int .i64 n, .int .i64 53] x.val fun e w' => e = .returned (.string (M.head (nm.extract 0 100) data.size m n 53)) ∧ Below x.val.heap.size x.val w') := fun x => HHd.out (nm.extract 0 100) data.size 53 x.val (by omega) (by omega) (by decide)
      have C2 : Hid (∀ x : M.Wd w3, Calls Tryz.prog 172 #[.string data] x.val fun e w' => e = .returned (.string fd) ∧ Below x.val.heap.size x.val w') := fun x => by rw [HFD.out]; exact HFl.out data x.val (by omega)
      obtain ⟨h2, hh2⟩ : ∃ h2, h2 = M.head (nm.extract 0 100) data.size m n 53 := ⟨_, rfl⟩
      rw [← hh2] at hhs C1 HEn
      clear hh2
      refine M.wp_region_wd (by kernel_rfl) (by kernel_rfl) (fun _ => ?_)
      repeat (first | go_big_quiet_skip | (go_big_quiet_want; go_big_quiet_op; first | go_big_quiet_on | (apply Exists.intro; refine ⟨fun x => ?_, ?_⟩; (first | exact M.Wd.call x (C1.out x) | exact M.Wd.call x (C2.out x)); go_big_quiet_on)))
      refine wpQuiet_nil ?_
      intro w9 hw'
      have HB9 : Hid (Below w.heap.size w w9) := by obtain ⟨x, rfl⟩ := hw'; exact HX.out x
      clear hw' q2 q3 q4
      go_wp2
      go_ret
      exact ⟨by rw [HEn.out]; rfl, HB9.out⟩
    · have HEn : Hid (M.entryB ⟨path, true, (m : Int), (n : Int), data⟩ = M.head nm data.size m n 53 ++ fd) := by
        show _ = _
        unfold M.entryB
        simp only
        rw [← HNM.out, if_neg hl, if_neg hl, HFD.out, M.nil_app]
        rfl
      have hl' : nm.size ≤ 100 := by omega
      have HB1 : Hid (Below (w.alloc (.cells #[.string path, .bool true, .int .i64 (m : Int), .int .i64 (n : Int), .string data] 54)).heap.size (w.alloc (.cells #[.string path, .bool true, .int .i64 (m : Int), .int .i64 (n : Int), .string data] 54)) (w.alloc (.cells #[.string path, .bool true, .int .i64 (m : Int), .int .i64 (n : Int), .string data] 54))) := Below.refl _ _
      go_enter Tryz.func147, Tryz.ntmps147
      have HB0 : Hid (Below w.heap.size w (w.alloc (.cells #[.string path, .bool true, .int .i64 (m : Int), .int .i64 (n : Int), .string data] 54))) := M.boxed_below HB1.out
      have HC0 : Hid ((w.alloc (.cells #[.string path, .bool true, .int .i64 (m : Int), .int .i64 (n : Int), .string data] 54)).cell? ⟨w.heap.size, 2, none⟩ = some (.int .i64 (m : Int)) ∧ (w.alloc (.cells #[.string path, .bool true, .int .i64 (m : Int), .int .i64 (n : Int), .string data] 54)).cell? ⟨w.heap.size, 3, none⟩ = some (.int .i64 (n : Int)) ∧ (w.alloc (.cells #[.string path, .bool true, .int .i64 (m : Int), .int .i64 (n : Int), .string data] 54)).cell? ⟨w.heap.size, 4, none⟩ = some (.string data)) := ⟨M.boxed HB1.out 2 _ rfl, M.boxed HB1.out 3 _ rfl, M.boxed HB1.out 4 _ rfl⟩
      go_wp2_with fail
      have q2 : ∀ x : M.Wd (w.alloc (.cells #[.string path, .bool true, .int .i64 (m : Int), .int .i64 (n : Int), .string data] 54)), x.val.cell? ⟨w.heap.size, 2, none⟩ = some (.int .i64 (m : Int)) := M.Wd.cell HC0.out.1
      have q3 : ∀ x : M.Wd (w.alloc (.cells #[.string path, .bool true, .int .i64 (m : Int), .int .i64 (n : Int), .string data] 54)), x.val.cell? ⟨w.heap.size, 3, none⟩ = some (.int .i64 (n : Int)) := M.Wd.cell HC0.out.2.1
      have q4 : ∀ x : M.Wd (w.alloc (.cells #[.string path, .bool true, .int .i64 (m : Int), .int .i64 (n : Int), .string data] 54)), x.val.cell? ⟨w.heap.size, 4, none⟩ = some (.string data) := M.Wd.cell HC0.out.2.2
      have HX : Hid (∀ x : M.Wd (w.alloc (.cells #[.string path, .bool true, .int .i64 (m : Int), .int .i64 (n : Int), .string data] 54)), Below w.heap.size w x.val) := fun x => M.s1' HB0.out x.bel
      have hhs : (M.head nm data.size m n 53).size = 512 := M.head_size (by omega) (by omega) (by omega) (by omega)
      have C1 : Hid (∀ x : M.Wd (w.alloc (.cells #[.string path, .bool true, .int .i64 (m : Int), .int .i64 (n : Int), .string data] 54)), Calls Tryz.prog 171 #[.string nm, .int .i64 data.size, .int .i64 m, .int .i64 n, .int .i64 53] x.val fun e w' => e = .returned (.string (M.head nm data.size m n 53)) ∧ Below x.val.heap.size x.val w') := fun x => HHd.out nm data.size 53 x.val (by omega) (by omega) (by decide)
      have C2 : Hid (∀ x : M.Wd (w.alloc (.cells #[.string path, .bool true, .int .i64 (m : Int), .int .i64 (n : Int), .string data] 54)), Calls Tryz.prog 172 #[.string data] x.val fun e w' => e = .returned (.string fd) ∧ Below x.val.heap.size x.val w') := fun x => by rw [HFD.out]; exact HFl.out data x.val (by omega)
      obtain ⟨h2, hh2⟩ : ∃ h2, h2 = M.head nm data.size m n 53 := ⟨_, rfl⟩
      rw [← hh2] at hhs C1 HEn
      clear hh2
      refine M.wp_region_wd (by kernel_rfl) (by kernel_rfl) (fun _ => ?_)
      repeat (first | go_big_quiet_skip | (go_big_quiet_want; go_big_quiet_op; first | go_big_quiet_on | (apply Exists.intro; refine ⟨fun x => ?_, ?_⟩; (first | exact M.Wd.call x (C1.out x) | exact M.Wd.call x (C2.out x)); go_big_quiet_on)))
      refine wpQuiet_nil ?_
      intro w9 hw'
      have HB9 : Hid (Below w.heap.size w w9) := by obtain ⟨x, rfl⟩ := hw'; exact HX.out x
      clear hw' q2 q3 q4
      go_wp2
      go_ret
      exact ⟨by rw [HEn.out]; rfl, HB9.out⟩
end Go.Proofs.YtephjmlcbpfnaaaGreatDoor
