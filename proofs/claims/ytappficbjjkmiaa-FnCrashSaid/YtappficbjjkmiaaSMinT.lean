/-
  What l01Min of the specification does.
-/
import Derived.Test.YtappficbjjkmiaaRows
import Derived.WalkKit
import Derived.WalkSpells
namespace Go.Proofs.Ytappficbjjkmiaa
open Go.RowKit

theorem sMinT_any (x y : Int) (w : World) : Calls Try.prog 62 #[.int .i64 x, .int .i64 y] w fun e w' => e = .returned (.int .i64 (min x y)) ∧ w = w' := by
  by_cases h : x < y
  · rw [Int.min_eq_left (by omega)]
    have d : decide (x < y) = true := decide_eq_true h
    go_enter Try.func62, Try.ntmps62
    go_wp2
    go_ret
    exact ⟨rfl, rfl⟩
  · rw [Int.min_eq_right (by omega)]
    have d : decide (x < y) = false := decide_eq_false h
    go_enter Try.func62, Try.ntmps62
    go_wp2
    go_ret
    exact ⟨rfl, rfl⟩
end Go.Proofs.Ytappficbjjkmiaa
