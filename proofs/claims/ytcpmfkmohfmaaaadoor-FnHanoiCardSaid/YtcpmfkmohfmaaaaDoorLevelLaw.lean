/-
  LevelAt of the program answers as that of the specification, at every two numbers.
-/
import Derived.Test.YtcpmfkmohfmaaaaDoorILevel
import Derived.Test.YtcpmfkmohfmaaaaDoorSLevel
namespace Go.Proofs.YtcpmfkmohfmaaaaDoor
open Go.RowKit

set_option maxHeartbeats 400000 in
theorem fnExactLevelAt_walk (n j : Int) (w : World) (h1 : -9223372036854775808 ≤ n) (h2 : n ≤ 9223372036854775807) (h3 : -9223372036854775808 ≤ j) (h4 : j ≤ 9223372036854775807) (ht : M.tz5 w) :
    Calls Tryd.prog 4 #[.int .i64 n, .int .i64 j] w fun e w' => e = .returned (.bool true) ∧ Below w.heap.size w w' := by
  obtain ⟨b, hb⟩ : ∃ b, M.level n j = b := ⟨_, rfl⟩
  have H1 : Hid (∀ W, Calls Tryd.prog 7 #[.int .i64 n, .int .i64 j] W fun e w' => e = .returned (.int .i64 b) ∧ W = w') := fun W => by have := sLevel_any n j W h1 h2 h3 h4; rwa [hb] at this
  have H2 : Hid (Calls Tryd.prog 6 #[.int .i64 n, .int .i64 j] w fun e w' => e = .returned (.int .i64 b) ∧ w = w') := by have := iLevel_any n j w ht h1 h2 h3 h4; rwa [hb] at this
  clear hb ht h1 h2 h3 h4
  go_enter Tryd.func4, Tryd.ntmps4
  go_wp2_with fail
  refine (H1.out _).mono ?_
  rintro e w1 ⟨rfl, rfl⟩
  go_wp2_with fail
  refine H2.out.mono ?_
  rintro e w2 ⟨rfl, rfl⟩
  go_wp2
  go_ret
  exact ⟨rfl, Below.refl _ _⟩
end Go.Proofs.YtcpmfkmohfmaaaaDoor
