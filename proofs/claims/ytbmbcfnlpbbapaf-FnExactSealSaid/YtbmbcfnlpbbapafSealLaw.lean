/-
  The law over Seal.
-/
import Derived.Test.YtbmbcfnlpbbapafSealSpec
namespace Go.Proofs.Ytbmbcfnlpbbapaf
open Go.RowKit

set_option maxHeartbeats 400000 in
theorem fnExactSeal_walk (s : ByteArray) (w : World) (hs : s.size ≤ maxLen) :
    Calls Try.prog 6 #[.string s] w fun e w' => e = .returned (.bool true) ∧ Below w.heap.size w w' := by
  have hs' := hs
  unfold maxLen at hs'
  by_cases h : 1048576 < s.size
  · go_enter Try.func6, Try.ntmps6
    go_wp2
    go_ret
    exact ⟨rfl, Below.refl _ _⟩
  · go_enter Try.func6, Try.ntmps6
    go_wp2_with (first | (go_at_call 13; refine (sSeal_any s _ hs).mono ?_; rintro e w1 ⟨rfl, hb1⟩) | (go_at_call 14; refine (iSeal_any s _ hs).mono ?_; rintro e w2 ⟨rfl, hb2⟩))
    go_ret
    exact ⟨rfl, hb1.trans (hb2.mono hb1.size)⟩
end Go.Proofs.Ytbmbcfnlpbbapaf
