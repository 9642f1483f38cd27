/-
  What l02Time of the specification does.
-/
import Derived.Test.YtpokcbcffijheabSIs
import Derived.WalkKit
import Derived.WalkSpells
import Derived.WalkLawsBesides
namespace Go.Proofs.Ytpokcbcffijheab
open Go.RowKit

set_option maxHeartbeats 400000 in
theorem sTime_any (n : Int) (w : World) :
    Calls Try.prog 54 #[.int .i64 n] w fun e w' => e = .returned (.bool (decide (0 ≤ n ∧ n ≤ 1000000000))) ∧ w = w' := by
  have HI : Hid (∀ W, Calls Try.prog 44 #[.int .i64 n, .int .i64 0, .int .i64 1000000000] W fun e w' => e = .returned (.bool (decide (0 ≤ n ∧ n ≤ 1000000000))) ∧ W = w') := fun W => sIs_any n 0 1000000000 W
  generalize decide (0 ≤ n ∧ n ≤ 1000000000) = b at HI
  go_enter Try.func54, Try.ntmps54
  go_wp2_with (go_at_call 44; refine (HI.out _).mono ?_; rintro e w' ⟨rfl, rfl⟩)
  go_ret
  exact ⟨rfl, rfl⟩

end Go.Proofs.Ytpokcbcffijheab
