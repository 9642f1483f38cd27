/-
  What isTime of the program does.
-/
import Derived.Test.YtpokcbcffijheabRows
import Derived.WalkKit
import Derived.WalkSpells
import Derived.WalkLawsBesides
namespace Go.Proofs.Ytpokcbcffijheab
open Go.RowKit

set_option maxHeartbeats 400000 in
theorem iTime_any (n : Int) (w : World) :
    Calls Try.prog 66 #[.int .i64 n] w fun e w' => e = .returned (.bool (decide (0 ≤ n ∧ n ≤ 1000000000))) ∧ w = w' := by
  by_cases ha : 0 ≤ n
  · by_cases hb : n ≤ 1000000000
    · have hE : Hid (decide (0 ≤ n ∧ n ≤ 1000000000) = true) := decide_eq_true ⟨ha, hb⟩
      have d1 : decide (0 ≤ n) = true := decide_eq_true ha
      have d2 : decide (n ≤ 1000000000) = true := decide_eq_true hb
      go_enter Try.func66, Try.ntmps66
      go_wp2
      go_ret
      exact ⟨by first | rfl | (rw [hE.out]; rfl), rfl⟩
    · have hE : Hid (decide (0 ≤ n ∧ n ≤ 1000000000) = false) := decide_eq_false (fun h => hb h.2)
      have d1 : decide (0 ≤ n) = true := decide_eq_true ha
      have d2 : decide (n ≤ 1000000000) = false := decide_eq_false hb
      go_enter Try.func66, Try.ntmps66
      go_wp2
      go_ret
      exact ⟨by first | rfl | (rw [hE.out]; rfl), rfl⟩
  · have hE : Hid (decide (0 ≤ n ∧ n ≤ 1000000000) = false) := decide_eq_false (fun h => ha h.1)
    have d1 : decide (0 ≤ n) = false := decide_eq_false ha
    go_enter Try.func66, Try.ntmps66
    go_wp2
    go_ret
    exact ⟨by first | rfl | (rw [hE.out]; rfl), rfl⟩
end Go.Proofs.Ytpokcbcffijheab
