/-
  What l02Is of the specification does.
-/
import Derived.Test.YtgceclfkonnlpaaGreatDoorRows
import Derived.WalkKit
import Derived.WalkSpells
import Derived.WalkLawsBesides
namespace Go.Proofs.YtgceclfkonnlpaaGreatDoor
open Go.RowKit

set_option maxHeartbeats 400000 in
theorem sIs_any (n lo hi : Int) (w : World) :
    Calls Tryz.prog 124 #[.int .i64 n, .int .i64 lo, .int .i64 hi] w fun e w' => e = .returned (.bool (decide (lo ≤ n ∧ n ≤ hi))) ∧ w = w' := by
  by_cases ha : lo ≤ n
  · by_cases hb : n ≤ hi
    · have hE : Hid (decide (lo ≤ n ∧ n ≤ hi) = true) := decide_eq_true ⟨ha, hb⟩
      have d1 : decide (lo ≤ n) = true := decide_eq_true ha
      have d2 : decide (n ≤ hi) = true := decide_eq_true hb
      go_enter Tryz.func124, Tryz.ntmps124
      go_wp2
      go_ret
      exact ⟨by first | rfl | (rw [hE.out]; rfl), rfl⟩
    · have hE : Hid (decide (lo ≤ n ∧ n ≤ hi) = false) := decide_eq_false (fun h => hb h.2)
      have d1 : decide (lo ≤ n) = true := decide_eq_true ha
      have d2 : decide (n ≤ hi) = false := decide_eq_false hb
      go_enter Tryz.func124, Tryz.ntmps124
      go_wp2
      go_ret
      exact ⟨by first | rfl | (rw [hE.out]; rfl), rfl⟩
  · have hE : Hid (decide (lo ≤ n ∧ n ≤ hi) = false) := decide_eq_false (fun h => ha h.1)
    have d1 : decide (lo ≤ n) = false := decide_eq_false ha
    go_enter Tryz.func124, Tryz.ntmps124
    go_wp2
    go_ret
    exact ⟨by first | rfl | (rw [hE.out]; rfl), rfl⟩

end Go.Proofs.YtgceclfkonnlpaaGreatDoor

/-
  What l02Time of the specification does.
-/
namespace Go.Proofs.YtgceclfkonnlpaaGreatDoor
open Go.RowKit

set_option maxHeartbeats 400000 in
theorem sTime_any (n : Int) (w : World) :
    Calls Tryz.prog 125 #[.int .i64 n] w fun e w' => e = .returned (.bool (decide (0 ≤ n ∧ n ≤ 1000000000))) ∧ w = w' := by
  have HI : Hid (∀ W, Calls Tryz.prog 124 #[.int .i64 n, .int .i64 0, .int .i64 1000000000] W fun e w' => e = .returned (.bool (decide (0 ≤ n ∧ n ≤ 1000000000))) ∧ W = w') := fun W => sIs_any n 0 1000000000 W
  generalize decide (0 ≤ n ∧ n ≤ 1000000000) = b at HI
  go_enter Tryz.func125, Tryz.ntmps125
  go_wp2_with (go_at_call 124; refine (HI.out _).mono ?_; rintro e w' ⟨rfl, rfl⟩)
  go_ret
  exact ⟨rfl, rfl⟩

end Go.Proofs.YtgceclfkonnlpaaGreatDoor
