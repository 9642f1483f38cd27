/-
  What l02Is of the specification does.
-/
import Derived.Test.YtappficbjjkmiaaRows
import Derived.WalkKit
import Derived.WalkSpells
import Derived.WalkLawsBesides
namespace Go.Proofs.Ytappficbjjkmiaa
open Go.RowKit

set_option maxHeartbeats 400000 in
theorem sIs_any (n lo hi : Int) (w : World) :
    Calls Try.prog 64 #[.int .i64 n, .int .i64 lo, .int .i64 hi] w fun e w' => e = .returned (.bool (decide (lo ≤ n ∧ n ≤ hi))) ∧ w = w' := by
  by_cases ha : lo ≤ n
  · by_cases hb : n ≤ hi
    · have hE : Hid (decide (lo ≤ n ∧ n ≤ hi) = true) := decide_eq_true ⟨ha, hb⟩
      have d1 : decide (lo ≤ n) = true := decide_eq_true ha
      have d2 : decide (n ≤ hi) = true := decide_eq_true hb
      go_enter Try.func64, Try.ntmps64
      go_wp2
      go_ret
      exact ⟨by first | rfl | (rw [hE.out]; rfl), rfl⟩
    · have hE : Hid (decide (lo ≤ n ∧ n ≤ hi) = false) := decide_eq_false (fun h => hb h.2)
      have d1 : decide (lo ≤ n) = true := decide_eq_true ha
      have d2 : decide (n ≤ hi) = false := decide_eq_false hb
      go_enter Try.func64, Try.ntmps64
      go_wp2
      go_ret
      exact ⟨by first | rfl | (rw [hE.out]; rfl), rfl⟩
  · have hE : Hid (decide (lo ≤ n ∧ n ≤ hi) = false) := decide_eq_false (fun h => ha h.1)
    have d1 : decide (lo ≤ n) = false := decide_eq_false ha
    go_enter Try.func64, Try.ntmps64
    go_wp2
    go_ret
    exact ⟨by first | rfl | (rw [hE.out]; rfl), rfl⟩

end Go.Proofs.Ytappficbjjkmiaa
