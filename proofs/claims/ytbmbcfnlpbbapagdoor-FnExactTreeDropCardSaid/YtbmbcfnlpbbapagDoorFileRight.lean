/-
  What l02File of the specification and fileRight of the program do: both tell whether a file is right.
-/
import Derived.Test.YtbmbcfnlpbbapagDoorTreeMath
import Derived.Test.YtbmbcfnlpbbapagDoorSPathWalk
import Derived.Test.YtbmbcfnlpbbapagDoorSIs
import Derived.Test.YtbmbcfnlpbbapagDoorSTime
import Derived.Test.YtbmbcfnlpbbapagDoorIPathWalk
import Derived.Test.YtbmbcfnlpbbapagDoorITime
import Derived.WalkKit
import Derived.WalkSpells
import Derived.WalkLawsBesides
namespace Go.Proofs.YtbmbcfnlpbbapagDoor
open Go.RowKit

theorem M.boxed {w w1 : World} {T : TypeId} {vs : Array Value} (hb : Below (w.alloc (.cells vs T)).heap.size (w.alloc (.cells vs T)) w1) (i : Nat) (v : Value) (h : vs[i]? = some v) : w1.cell? ⟨w.heap.size, i, none⟩ = some v := by
  rw [hb.cell (p := ⟨w.heap.size, i, none⟩) (by simp)]
  simp only [World.cell?, heap_alloc_new]
  simpa using h
theorem M.boxed_below {w w1 : World} {o : Obj} (hb : Below (w.alloc o).heap.size (w.alloc o) w1) : Below w.heap.size w w1 :=
  ((Below.refl _ w).alloc (Nat.le_refl _) o).trans (hb.mono (by simp))
theorem M.fileR_of {f : M.FileD} {b1 b2 b3 b4 b5 : Bool} (h1 : M.pathR f.path = b1) (h2 : decide (0 ≤ f.mode ∧ f.mode ≤ 4095) = b2) (h3 : decide (0 ≤ f.time ∧ f.time ≤ 1000000000) = b3) (h4 : decide (f.data.size ≤ 1200) = b4) (h5 : (!f.dir || decide (f.data.size = 0)) = b5) :
    M.fileR f = (b1 && b2 && b3 && b4 && b5) := by unfold M.fileR; rw [h1, h2, h3, h4, h5]
theorem M.empty_of {x : ByteArray} (h : x.size = 0) : x = ⟨#[]⟩ := by
  apply ByteArray.ext
  exact Array.eq_empty_of_size_eq_zero h
theorem M.not_empty {x : ByteArray} (h : ¬ x.size = 0) : (x.toList == []) = false := by
  rw [beq_eq_false_iff_ne]
  intro e
  apply h
  rw [Lib.size_eq, ← ByteArray.toList_eq, e]; rfl


set_option maxRecDepth 100000 in
set_option maxHeartbeats 3200000 in
theorem sFile_any (f : M.FileD) (w : World) (hok : M.fok f) :
    Calls Tryd.prog 25 #[M.fval f] w fun e w' => e = .returned (.bool (M.fileR f)) ∧ Below w.heap.size w w' := by
  obtain ⟨k1, k2, k3, k4, k5, k6⟩ := hok
  have hmu := M.fileR_of (f := f) rfl rfl rfl rfl rfl
  generalize M.fileR f = R at hmu ⊢
  obtain ⟨p, d, m, t, x⟩ := f
  simp only at k1 k2 k3 k4 k5 k6 hmu
  unfold M.fval
  simp only
  have kx : x.size ≤ 9223372036854775807 := by unfold maxLen at k2; omega
  have HP : Hid (∀ W, Below w.heap.size w W → Calls Tryd.prog 7 #[.string p] W fun e w' => e = .returned (.bool (M.pathR p)) ∧ Below W.heap.size W w') := fun W hW => sPath_any p W k1
  have HM : Hid (∀ W, Calls Tryd.prog 40 #[.int .i64 m, .int .i64 0, .int .i64 4095] W fun e w' => e = .returned (.bool (decide (0 ≤ m ∧ m ≤ 4095))) ∧ W = w') := fun W => sIs_any m 0 4095 W
  have HT : Hid (∀ W, Calls Tryd.prog 41 #[.int .i64 t] W fun e w' => e = .returned (.bool (decide (0 ≤ t ∧ t ≤ 1000000000))) ∧ W = w') := fun W => sTime_any t W
  clear k1 k2
  generalize M.pathR p = b1 at HP hmu
  generalize hb2 : decide (0 ≤ m ∧ m ≤ 4095) = b2 at hmu HM
  generalize decide (0 ≤ t ∧ t ≤ 1000000000) = b3 at hmu HT
  have HU : Hid (R = (b1 && b2 && b3 && decide (x.size ≤ 1200) && (!d || decide (x.size = 0)))) := hmu
  clear hmu
  clear hb2
  cases b1
  case false =>
    have hR0 : R = false := by have := HU.out; simpa using this
    have hR : Hid (R = false) := hR0
    clear HU hR0
    go_enter Tryd.func25, Tryd.ntmps25
    go_wp2_with fail
    refine (HP.out _ ((Below.refl _ w).alloc (Nat.le_refl _) _)).mono ?_
    rintro e w1 ⟨rfl, hb⟩
    have g0 := M.boxed hb 0 _ rfl
    have g1 := M.boxed hb 1 _ rfl
    have g2 := M.boxed hb 2 _ rfl
    have g3 := M.boxed hb 3 _ rfl
    have g4 := M.boxed hb 4 _ rfl
    have B1 : Hid (Below w.heap.size w w1) := M.boxed_below hb
    clear hb
    go_wp2_with (first | (go_at_call 40; refine (HM.out _).mono ?_; rintro e w2 ⟨rfl, rfl⟩) | (go_at_call 41; refine (HT.out _).mono ?_; rintro e w3 ⟨rfl, rfl⟩))
    go_ret
    exact ⟨by first | rfl | (rw [hR.out]; rfl), B1.out⟩
  cases b2
  case false =>
    have hR0 : R = false := by have := HU.out; simpa using this
    have hR : Hid (R = false) := hR0
    clear HU hR0
    go_enter Tryd.func25, Tryd.ntmps25
    go_wp2_with fail
    refine (HP.out _ ((Below.refl _ w).alloc (Nat.le_refl _) _)).mono ?_
    rintro e w1 ⟨rfl, hb⟩
    have g0 := M.boxed hb 0 _ rfl
    have g1 := M.boxed hb 1 _ rfl
    have g2 := M.boxed hb 2 _ rfl
    have g3 := M.boxed hb 3 _ rfl
    have g4 := M.boxed hb 4 _ rfl
    have B1 : Hid (Below w.heap.size w w1) := M.boxed_below hb
    clear hb
    go_wp2_with (first | (go_at_call 40; refine (HM.out _).mono ?_; rintro e w2 ⟨rfl, rfl⟩) | (go_at_call 41; refine (HT.out _).mono ?_; rintro e w3 ⟨rfl, rfl⟩))
    go_ret
    exact ⟨by first | rfl | (rw [hR.out]; rfl), B1.out⟩
  cases b3
  case false =>
    have hR0 : R = false := by have := HU.out; simpa using this
    have hR : Hid (R = false) := hR0
    clear HU hR0
    go_enter Tryd.func25, Tryd.ntmps25
    go_wp2_with fail
    refine (HP.out _ ((Below.refl _ w).alloc (Nat.le_refl _) _)).mono ?_
    rintro e w1 ⟨rfl, hb⟩
    have g0 := M.boxed hb 0 _ rfl
    have g1 := M.boxed hb 1 _ rfl
    have g2 := M.boxed hb 2 _ rfl
    have g3 := M.boxed hb 3 _ rfl
    have g4 := M.boxed hb 4 _ rfl
    have B1 : Hid (Below w.heap.size w w1) := M.boxed_below hb
    clear hb
    go_wp2_with (first | (go_at_call 40; refine (HM.out _).mono ?_; rintro e w2 ⟨rfl, rfl⟩) | (go_at_call 41; refine (HT.out _).mono ?_; rintro e w3 ⟨rfl, rfl⟩))
    go_ret
    exact ⟨by first | rfl | (rw [hR.out]; rfl), B1.out⟩
  by_cases h4 : 1200 < x.size
  ·
    have hR0 : R = false := by have := HU.out; simpa [show ¬ x.size ≤ 1200 by omega] using this
    have hR : Hid (R = false) := hR0
    clear HU hR0
    have d4 : decide ((x.size : Int) ≤ 1200) = false := decide_eq_false (by omega)
    go_enter Tryd.func25, Tryd.ntmps25
    go_wp2_with fail
    refine (HP.out _ ((Below.refl _ w).alloc (Nat.le_refl _) _)).mono ?_
    rintro e w1 ⟨rfl, hb⟩
    have g0 := M.boxed hb 0 _ rfl
    have g1 := M.boxed hb 1 _ rfl
    have g2 := M.boxed hb 2 _ rfl
    have g3 := M.boxed hb 3 _ rfl
    have g4 := M.boxed hb 4 _ rfl
    have B1 : Hid (Below w.heap.size w w1) := M.boxed_below hb
    clear hb
    go_wp2_with (first | (go_at_call 40; refine (HM.out _).mono ?_; rintro e w2 ⟨rfl, rfl⟩) | (go_at_call 41; refine (HT.out _).mono ?_; rintro e w3 ⟨rfl, rfl⟩))
    go_ret
    exact ⟨by first | rfl | (rw [hR.out]; rfl), B1.out⟩
  have d4 : decide ((x.size : Int) ≤ 1200) = true := decide_eq_true (by omega)
  cases d
  case false =>
    have hR0 : R = true := by have := HU.out; simpa [show x.size ≤ 1200 by omega] using this
    have hR : Hid (R = true) := hR0
    clear HU hR0
    go_enter Tryd.func25, Tryd.ntmps25
    go_wp2_with fail
    refine (HP.out _ ((Below.refl _ w).alloc (Nat.le_refl _) _)).mono ?_
    rintro e w1 ⟨rfl, hb⟩
    have g0 := M.boxed hb 0 _ rfl
    have g1 := M.boxed hb 1 _ rfl
    have g2 := M.boxed hb 2 _ rfl
    have g3 := M.boxed hb 3 _ rfl
    have g4 := M.boxed hb 4 _ rfl
    have B1 : Hid (Below w.heap.size w w1) := M.boxed_below hb
    clear hb
    go_wp2_with (first | (go_at_call 40; refine (HM.out _).mono ?_; rintro e w2 ⟨rfl, rfl⟩) | (go_at_call 41; refine (HT.out _).mono ?_; rintro e w3 ⟨rfl, rfl⟩))
    go_ret
    exact ⟨by first | rfl | (rw [hR.out]; rfl), B1.out⟩
  by_cases h5 : x.size = 0
  ·
    have hR0 : R = true := by have := HU.out; simpa [h5] using this
    have hR : Hid (R = true) := hR0
    clear HU hR0
    obtain rfl := M.empty_of h5
    clear h5
    go_enter Tryd.func25, Tryd.ntmps25
    go_wp2_with fail
    refine (HP.out _ ((Below.refl _ w).alloc (Nat.le_refl _) _)).mono ?_
    rintro e w1 ⟨rfl, hb⟩
    have g0 := M.boxed hb 0 _ rfl
    have g1 := M.boxed hb 1 _ rfl
    have g2 := M.boxed hb 2 _ rfl
    have g3 := M.boxed hb 3 _ rfl
    have g4 := M.boxed hb 4 _ rfl
    have B1 : Hid (Below w.heap.size w w1) := M.boxed_below hb
    clear hb
    go_wp2_with (first | (go_at_call 40; refine (HM.out _).mono ?_; rintro e w2 ⟨rfl, rfl⟩) | (go_at_call 41; refine (HT.out _).mono ?_; rintro e w3 ⟨rfl, rfl⟩))
    go_ret
    exact ⟨by first | rfl | (rw [hR.out]; rfl), B1.out⟩
  ·
    have hR0 : R = false := by have := HU.out; simpa [h5] using this
    have hR : Hid (R = false) := hR0
    clear HU hR0
    have d5 := M.not_empty h5
    go_enter Tryd.func25, Tryd.ntmps25
    go_wp2_with fail
    refine (HP.out _ ((Below.refl _ w).alloc (Nat.le_refl _) _)).mono ?_
    rintro e w1 ⟨rfl, hb⟩
    have g0 := M.boxed hb 0 _ rfl
    have g1 := M.boxed hb 1 _ rfl
    have g2 := M.boxed hb 2 _ rfl
    have g3 := M.boxed hb 3 _ rfl
    have g4 := M.boxed hb 4 _ rfl
    have B1 : Hid (Below w.heap.size w w1) := M.boxed_below hb
    clear hb
    go_wp2_with (first | (go_at_call 40; refine (HM.out _).mono ?_; rintro e w2 ⟨rfl, rfl⟩) | (go_at_call 41; refine (HT.out _).mono ?_; rintro e w3 ⟨rfl, rfl⟩))
    go_ret
    exact ⟨by first | rfl | (rw [hR.out]; rfl), B1.out⟩

set_option maxRecDepth 100000 in
set_option maxHeartbeats 3200000 in
theorem iFile_any (f : M.FileD) (w : World) (hok : M.fok f) (hm : M.ml w) :
    Calls Tryd.prog 42 #[M.fval f] w fun e w' => e = .returned (.bool (M.fileR f)) ∧ Below w.heap.size w w' := by
  obtain ⟨k1, k2, k3, k4, k5, k6⟩ := hok
  have hmu := M.fileR_of (f := f) rfl rfl rfl rfl rfl
  generalize M.fileR f = R at hmu ⊢
  obtain ⟨p, d, m, t, x⟩ := f
  simp only at k1 k2 k3 k4 k5 k6 hmu
  unfold M.fval
  simp only
  have kx : x.size ≤ 9223372036854775807 := by unfold maxLen at k2; omega
  have HP : Hid (∀ W, Below w.heap.size w W → Calls Tryd.prog 8 #[.string p] W fun e w' => e = .returned (.bool (M.pathR p)) ∧ Below W.heap.size W w') := fun W hW => iPath_any p W k1 (M.ml_below hm hW)
  have HT : Hid (∀ W, Calls Tryd.prog 53 #[.int .i64 t] W fun e w' => e = .returned (.bool (decide (0 ≤ t ∧ t ≤ 1000000000))) ∧ W = w') := fun W => iTime_any t W
  clear hm
  clear k1 k2
  generalize M.pathR p = b1 at HP hmu
  generalize hb2 : decide (0 ≤ m ∧ m ≤ 4095) = b2 at hmu
  generalize decide (0 ≤ t ∧ t ≤ 1000000000) = b3 at hmu HT
  have HU : Hid (R = (b1 && b2 && b3 && decide (x.size ≤ 1200) && (!d || decide (x.size = 0)))) := hmu
  clear hmu
  cases b1
  case false =>
    have hR0 : R = false := by have := HU.out; simpa using this
    have hR : Hid (R = false) := hR0
    clear HU hR0
    clear hb2
    go_enter Tryd.func42, Tryd.ntmps42
    go_wp2_with fail
    refine (HP.out _ ((Below.refl _ w).alloc (Nat.le_refl _) _)).mono ?_
    rintro e w1 ⟨rfl, hb⟩
    have g0 := M.boxed hb 0 _ rfl
    have g1 := M.boxed hb 1 _ rfl
    have g2 := M.boxed hb 2 _ rfl
    have g3 := M.boxed hb 3 _ rfl
    have g4 := M.boxed hb 4 _ rfl
    have B1 : Hid (Below w.heap.size w w1) := M.boxed_below hb
    clear hb
    go_wp2_with (go_at_call 53; refine (HT.out _).mono ?_; rintro e w3 ⟨rfl, rfl⟩)
    go_ret
    exact ⟨by first | rfl | (rw [hR.out]; rfl), B1.out⟩
  by_cases m1 : m < 0
  · obtain rfl : b2 = false := by rw [← hb2]; exact decide_eq_false (by omega)
    have hR0 : R = false := by have := HU.out; simpa using this
    have hR : Hid (R = false) := hR0
    clear HU hR0
    clear hb2
    have e1 : decide (m < 0) = true := decide_eq_true m1
    go_enter Tryd.func42, Tryd.ntmps42
    go_wp2_with fail
    refine (HP.out _ ((Below.refl _ w).alloc (Nat.le_refl _) _)).mono ?_
    rintro e w1 ⟨rfl, hb⟩
    have g0 := M.boxed hb 0 _ rfl
    have g1 := M.boxed hb 1 _ rfl
    have g2 := M.boxed hb 2 _ rfl
    have g3 := M.boxed hb 3 _ rfl
    have g4 := M.boxed hb 4 _ rfl
    have B1 : Hid (Below w.heap.size w w1) := M.boxed_below hb
    clear hb
    go_wp2_with (go_at_call 53; refine (HT.out _).mono ?_; rintro e w3 ⟨rfl, rfl⟩)
    go_ret
    exact ⟨by first | rfl | (rw [hR.out]; rfl), B1.out⟩
  have e1 : decide (m < 0) = false := decide_eq_false m1
  by_cases m2 : 4095 < m
  · obtain rfl : b2 = false := by rw [← hb2]; exact decide_eq_false (by omega)
    have hR0 : R = false := by have := HU.out; simpa using this
    have hR : Hid (R = false) := hR0
    clear HU hR0
    clear hb2
    have e2 : decide (4095 < m) = true := decide_eq_true m2
    go_enter Tryd.func42, Tryd.ntmps42
    go_wp2_with fail
    refine (HP.out _ ((Below.refl _ w).alloc (Nat.le_refl _) _)).mono ?_
    rintro e w1 ⟨rfl, hb⟩
    have g0 := M.boxed hb 0 _ rfl
    have g1 := M.boxed hb 1 _ rfl
    have g2 := M.boxed hb 2 _ rfl
    have g3 := M.boxed hb 3 _ rfl
    have g4 := M.boxed hb 4 _ rfl
    have B1 : Hid (Below w.heap.size w w1) := M.boxed_below hb
    clear hb
    go_wp2_with (go_at_call 53; refine (HT.out _).mono ?_; rintro e w3 ⟨rfl, rfl⟩)
    go_ret
    exact ⟨by first | rfl | (rw [hR.out]; rfl), B1.out⟩
  have e2 : decide (4095 < m) = false := decide_eq_false m2
  obtain rfl : b2 = true := by rw [← hb2]; exact decide_eq_true (by omega)
  clear hb2
  cases b3
  case false =>
    have hR0 : R = false := by have := HU.out; simpa using this
    have hR : Hid (R = false) := hR0
    clear HU hR0
    go_enter Tryd.func42, Tryd.ntmps42
    go_wp2_with fail
    refine (HP.out _ ((Below.refl _ w).alloc (Nat.le_refl _) _)).mono ?_
    rintro e w1 ⟨rfl, hb⟩
    have g0 := M.boxed hb 0 _ rfl
    have g1 := M.boxed hb 1 _ rfl
    have g2 := M.boxed hb 2 _ rfl
    have g3 := M.boxed hb 3 _ rfl
    have g4 := M.boxed hb 4 _ rfl
    have B1 : Hid (Below w.heap.size w w1) := M.boxed_below hb
    clear hb
    go_wp2_with (go_at_call 53; refine (HT.out _).mono ?_; rintro e w3 ⟨rfl, rfl⟩)
    go_ret
    exact ⟨by first | rfl | (rw [hR.out]; rfl), B1.out⟩
  cases d
  case false =>
    by_cases h4 : 1200 < x.size
    ·
      have hR0 : R = false := by have := HU.out; simpa [show ¬ x.size ≤ 1200 by omega] using this
      have hR : Hid (R = false) := hR0
      clear HU hR0
      have d4 : decide ((x.size : Int) ≤ 1200) = false := decide_eq_false (by omega)
      go_enter Tryd.func42, Tryd.ntmps42
      go_wp2_with fail
      refine (HP.out _ ((Below.refl _ w).alloc (Nat.le_refl _) _)).mono ?_
      rintro e w1 ⟨rfl, hb⟩
      have g0 := M.boxed hb 0 _ rfl
      have g1 := M.boxed hb 1 _ rfl
      have g2 := M.boxed hb 2 _ rfl
      have g3 := M.boxed hb 3 _ rfl
      have g4 := M.boxed hb 4 _ rfl
      have B1 : Hid (Below w.heap.size w w1) := M.boxed_below hb
      clear hb
      go_wp2_with (go_at_call 53; refine (HT.out _).mono ?_; rintro e w3 ⟨rfl, rfl⟩)
      go_ret
      exact ⟨by first | rfl | (rw [hR.out]; rfl), B1.out⟩
    ·
      have hR0 : R = true := by have := HU.out; simpa [show x.size ≤ 1200 by omega] using this
      have hR : Hid (R = true) := hR0
      clear HU hR0
      have d4 : decide ((x.size : Int) ≤ 1200) = true := decide_eq_true (by omega)
      go_enter Tryd.func42, Tryd.ntmps42
      go_wp2_with fail
      refine (HP.out _ ((Below.refl _ w).alloc (Nat.le_refl _) _)).mono ?_
      rintro e w1 ⟨rfl, hb⟩
      have g0 := M.boxed hb 0 _ rfl
      have g1 := M.boxed hb 1 _ rfl
      have g2 := M.boxed hb 2 _ rfl
      have g3 := M.boxed hb 3 _ rfl
      have g4 := M.boxed hb 4 _ rfl
      have B1 : Hid (Below w.heap.size w w1) := M.boxed_below hb
      clear hb
      go_wp2_with (go_at_call 53; refine (HT.out _).mono ?_; rintro e w3 ⟨rfl, rfl⟩)
      go_ret
      exact ⟨by first | rfl | (rw [hR.out]; rfl), B1.out⟩
  by_cases h5 : x.size = 0
  ·
    have hR0 : R = true := by have := HU.out; simpa [h5] using this
    have hR : Hid (R = true) := hR0
    clear HU hR0
    obtain rfl := M.empty_of h5
    clear h5
    go_enter Tryd.func42, Tryd.ntmps42
    go_wp2_with fail
    refine (HP.out _ ((Below.refl _ w).alloc (Nat.le_refl _) _)).mono ?_
    rintro e w1 ⟨rfl, hb⟩
    have g0 := M.boxed hb 0 _ rfl
    have g1 := M.boxed hb 1 _ rfl
    have g2 := M.boxed hb 2 _ rfl
    have g3 := M.boxed hb 3 _ rfl
    have g4 := M.boxed hb 4 _ rfl
    have B1 : Hid (Below w.heap.size w w1) := M.boxed_below hb
    clear hb
    go_wp2_with (go_at_call 53; refine (HT.out _).mono ?_; rintro e w3 ⟨rfl, rfl⟩)
    go_ret
    exact ⟨by first | rfl | (rw [hR.out]; rfl), B1.out⟩
  ·
    have hR0 : R = false := by have := HU.out; simpa [h5] using this
    have hR : Hid (R = false) := hR0
    clear HU hR0
    have d5 := M.not_empty h5
    go_enter Tryd.func42, Tryd.ntmps42
    go_wp2_with fail
    refine (HP.out _ ((Below.refl _ w).alloc (Nat.le_refl _) _)).mono ?_
    rintro e w1 ⟨rfl, hb⟩
    have g0 := M.boxed hb 0 _ rfl
    have g1 := M.boxed hb 1 _ rfl
    have g2 := M.boxed hb 2 _ rfl
    have g3 := M.boxed hb 3 _ rfl
    have g4 := M.boxed hb 4 _ rfl
    have B1 : Hid (Below w.heap.size w w1) := M.boxed_below hb
    clear hb
    go_wp2_with (go_at_call 53; refine (HT.out _).mono ?_; rintro e w3 ⟨rfl, rfl⟩)
    go_ret
    exact ⟨by first | rfl | (rw [hR.out]; rfl), B1.out⟩
end Go.Proofs.YtbmbcfnlpbbapagDoor
