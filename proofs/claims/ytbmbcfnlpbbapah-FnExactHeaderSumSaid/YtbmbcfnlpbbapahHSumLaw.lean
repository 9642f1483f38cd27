/-
  HeaderSum of the program answers as that of the specification.
-/
import Derived.Test.YtbmbcfnlpbbapahIHSum
import Derived.Test.YtbmbcfnlpbbapahSHSum
namespace Go.Proofs.Ytbmbcfnlpbbapah
open Go.RowKit

set_option maxHeartbeats 400000 in
theorem fnExactHeaderSum_walk (s : ByteArray) (w : World) (hs : s.size ≤ maxLen) :
    Calls Try.prog 4 #[.string s] w fun e w' => e = .returned (.bool true) ∧ Below w.heap.size w w' := by
  have hs' := hs
  unfold maxLen at hs'
  by_cases h : 1048576 < s.size
  · go_enter Try.func4, Try.ntmps4
    go_wp2
    go_ret
    exact ⟨rfl, Below.refl _ _⟩
  · obtain ⟨b, hb⟩ : ∃ b, (if s.size = 512 then (M.sumH s : Int) else -1) = b := ⟨_, rfl⟩
    have h1 : Hid (∀ W, Calls Try.prog 7 #[.string s] W fun e w' => e = .returned (.int .i64 b) ∧ W = w') := fun W => by have := sHSum_any s W; rwa [hb] at this
    have h2 : Hid (∀ W, Calls Try.prog 8 #[.string s] W fun e w' => e = .returned (.int .i64 b) ∧ Below W.heap.size W w') := fun W => by have := iHSum_any s W; rwa [hb] at this
    clear hb
    go_enter Try.func4, Try.ntmps4
    go_wp2_with (first | (go_at_call 7; refine (h1.out _).mono ?_; rintro e w1 ⟨rfl, rfl⟩) | (go_at_call 8; refine (h2.out _).mono ?_; rintro e w2 ⟨rfl, hbb⟩))
    go_ret
    exact ⟨rfl, hbb⟩
end Go.Proofs.Ytbmbcfnlpbbapah
