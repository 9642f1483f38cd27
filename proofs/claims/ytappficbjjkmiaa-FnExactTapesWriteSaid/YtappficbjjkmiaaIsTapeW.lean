/-
  What isTape of the program does.
-/
import Derived.Test.YtappficbjjkmiaaRows
import Derived.WalkKit
import Derived.WalkSpells
import Derived.WalkLawsBesides
namespace Go.Proofs.Ytappficbjjkmiaa
open Go.RowKit

set_option maxRecDepth 100000 in
theorem iIsTape_any (w : World) (a : Option Addr) (n c : Nat) (k : Int) (_ : n ≤ 9223372036854775807) :
    Calls Try.prog 65 #[.slice a n c, .int .i64 k] w fun e w' => e = .returned (.bool (decide (0 ≤ k ∧ k < (n : Int)))) ∧ w = w' := by
  by_cases h0 : 0 ≤ k
  · have d0 : decide (0 ≤ k) = true := decide_eq_true h0
    by_cases h1 : k < (n : Int)
    · rw [decide_eq_true (show 0 ≤ k ∧ k < (n : Int) from ⟨h0, h1⟩)]
      have d1 : decide (k < (n : Int)) = true := decide_eq_true h1
      clear h0 h1
      go_enter Try.func65, Try.ntmps65
      go_wp2
      go_ret
      exact ⟨rfl, rfl⟩
    · rw [decide_eq_false (show ¬ (0 ≤ k ∧ k < (n : Int)) from fun h => h1 h.2)]
      have d1 : decide (k < (n : Int)) = false := decide_eq_false h1
      clear h0 h1
      go_enter Try.func65, Try.ntmps65
      go_wp2
      go_ret
      exact ⟨rfl, rfl⟩
  · rw [decide_eq_false (show ¬ (0 ≤ k ∧ k < (n : Int)) from fun h => h0 h.1)]
    have d0 : decide (0 ≤ k) = false := decide_eq_false h0
    clear h0
    go_enter Try.func65, Try.ntmps65
    go_wp2
    go_ret
    exact ⟨rfl, rfl⟩
end Go.Proofs.Ytappficbjjkmiaa
