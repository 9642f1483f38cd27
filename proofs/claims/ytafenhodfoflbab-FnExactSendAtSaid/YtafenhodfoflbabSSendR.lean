/-
  What SenderRight of the specification does.
-/
import Derived.Test.YtafenhodfoflbabSFits
import Derived.Test.YtafenhodfoflbabSIs
import Derived.Test.YtafenhodfoflbabLinkBox
namespace Go.Proofs.Ytafenhodfoflbab
open Go.RowKit

set_option maxRecDepth 100000 in
set_option maxHeartbeats 1600000 in
theorem sSendR_any (w : World) (a : Option Addr) (n c : Nat) (ss : List ByteArray) (x d t : Int) (h : M.Strs w a n c ss) (hok : ∀ s ∈ ss, s.size ≤ maxLen) :
    Calls Try.prog 10 #[.agg #[.slice a n c, .int .i64 x, .int .i64 d, .int .i64 t]] w fun e w' => e = .returned (.bool (M.sndR ss x d t)) ∧ Below w.heap.size w w' := by
  have hlm : n ≤ 9223372036854775807 := by obtain ⟨_, h1, h2, _⟩ := h; unfold maxLen at h2; omega
  have HB : Hid (∀ o, Below w.heap.size w (w.alloc o)) := fun o => (Below.refl _ _).alloc (Nat.le_refl _) _
  have CF : Hid (∀ o, Calls Try.prog 36 #[.slice a n c] (w.alloc o) fun e w' => e = .returned (.bool (M.fits ss)) ∧ w.alloc o = w') := fun o => sFits_any _ a n c ss (h.below (HB.out o)) hok
  have CX : Hid (∀ W, Calls Try.prog 37 #[.int .i64 x, .int .i64 0, .int .i64 (n : Int)] W fun e w' => e = .returned (.bool (decide (0 ≤ x ∧ x ≤ (ss.length : Int)))) ∧ W = w') := fun W => by rw [← h.1]; exact sIs_any x 0 n W
  have CD : Hid (∀ W, Calls Try.prog 37 #[.int .i64 d, .int .i64 0, .int .i64 2000000000] W fun e w' => e = .returned (.bool (decide (0 ≤ d ∧ d ≤ 2000000000))) ∧ W = w') := fun W => sIs_any d 0 2000000000 W
  have CT : Hid (∀ W, Calls Try.prog 37 #[.int .i64 t, .int .i64 1, .int .i64 64] W fun e w' => e = .returned (.bool (decide (1 ≤ t ∧ t ≤ 64))) ∧ W = w') := fun W => sIs_any t 1 64 W
  have HN : Hid (n = ss.length) := h.1
  clear h hok
  unfold M.sndR
  by_cases h0 : n = 0
  · rw [decide_eq_false (show ¬ 1 ≤ ss.length by have := HN.out; omega)]
    simp only [Bool.false_and]
    subst h0
    go_enter Try.func10, Try.ntmps10
    go_wp2
    go_ret
    exact ⟨rfl, HB.out _⟩
  rw [decide_eq_true (show 1 ≤ ss.length by have := HN.out; omega)]
  have d0 : decide (0 < n) = true := decide_eq_true (by omega)
  have d0' : decide (0 < (n : Int)) = true := decide_eq_true (by omega)
  clear h0 HN
  generalize M.fits ss = f at CF
  generalize decide (0 ≤ x ∧ x ≤ (ss.length : Int)) = p at CX
  generalize decide (0 ≤ d ∧ d ≤ 2000000000) = q at CD
  generalize decide (1 ≤ t ∧ t ≤ 64) = r at CT
  cases f
  · simp only [Bool.true_and, Bool.false_and]
    go_enter Try.func10, Try.ntmps10
    go_wp2_with fail
    refine (CF.out _).mono ?_
    rintro e w' ⟨rfl, rfl⟩
    go_wp2
    go_ret
    exact ⟨rfl, HB.out _⟩
  cases p
  · simp only [Bool.true_and, Bool.false_and]
    go_enter Try.func10, Try.ntmps10
    go_wp2_with fail
    refine (CF.out _).mono ?_
    rintro e w' ⟨rfl, rfl⟩
    go_wp2_with fail
    refine (CX.out _).mono ?_
    rintro e w' ⟨rfl, rfl⟩
    go_wp2
    go_ret
    exact ⟨rfl, HB.out _⟩
  cases q
  · simp only [Bool.true_and, Bool.false_and]
    go_enter Try.func10, Try.ntmps10
    go_wp2_with fail
    refine (CF.out _).mono ?_
    rintro e w' ⟨rfl, rfl⟩
    go_wp2_with fail
    refine (CX.out _).mono ?_
    rintro e w' ⟨rfl, rfl⟩
    go_wp2_with fail
    refine (CD.out _).mono ?_
    rintro e w' ⟨rfl, rfl⟩
    go_wp2
    go_ret
    exact ⟨rfl, HB.out _⟩
  · simp only [Bool.true_and]
    go_enter Try.func10, Try.ntmps10
    go_wp2_with fail
    refine (CF.out _).mono ?_
    rintro e w' ⟨rfl, rfl⟩
    go_wp2_with fail
    refine (CX.out _).mono ?_
    rintro e w' ⟨rfl, rfl⟩
    go_wp2_with fail
    refine (CD.out _).mono ?_
    rintro e w' ⟨rfl, rfl⟩
    go_wp2_with fail
    refine (CT.out _).mono ?_
    rintro e w' ⟨rfl, rfl⟩
    go_wp2
    go_ret
    exact ⟨rfl, HB.out _⟩
end Go.Proofs.Ytafenhodfoflbab
