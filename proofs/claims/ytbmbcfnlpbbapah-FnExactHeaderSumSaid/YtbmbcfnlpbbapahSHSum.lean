/-
  What HeaderSum of the specification does.
-/
import Derived.Test.YtbmbcfnlpbbapahRows
import Derived.Test.YtbmbcfnlpbbapahSSum
import Derived.WalkKit
import Derived.WalkSpells
import Derived.WalkLawsBesides
namespace Go.Proofs.Ytbmbcfnlpbbapah
open Go.RowKit

set_option maxHeartbeats 400000 in
theorem sHSum_any (s : ByteArray) (w : World) :
    Calls Try.prog 7 #[.string s] w fun e w' => e = .returned (.int .i64 (if s.size = 512 then (M.sumH s : Int) else -1)) ∧ w = w' := by
  by_cases h : s.size = 512
  · rw [if_pos h]
    have HS : Hid (∀ W, Calls Try.prog 9 #[.string s] W fun e w' => e = .returned (.int .i64 (M.sumH s)) ∧ W = w') := fun W => sSum_any s W (by omega)
    have d1 : ((s.size : Int) != 512) = false := by rw [bne_eq_false_iff_eq]; omega
    clear h
    go_enter Try.func7, Try.ntmps7
    go_wp2_with (go_at_call 9; refine (HS.out _).mono ?_; rintro e w' ⟨rfl, rfl⟩)
    go_ret
    exact ⟨rfl, rfl⟩
  · rw [if_neg h]
    have d1 : ((s.size : Int) != 512) = true := by rw [bne_iff_ne]; omega
    clear h
    go_enter Try.func7, Try.ntmps7
    go_wp2
    go_ret
    exact ⟨rfl, rfl⟩
end Go.Proofs.Ytbmbcfnlpbbapah
