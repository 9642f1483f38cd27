/-
  OctalRead of the program answers as that of the specification, at every text.
-/
import Derived.Test.YtbmbcfnlpbbapahIOctR
import Derived.Test.YtbmbcfnlpbbapahSOctR
namespace Go.Proofs.Ytbmbcfnlpbbapah
open Go.RowKit

set_option maxHeartbeats 400000 in
theorem fnExactOctalRead_walk (s : ByteArray) (w : World) (hs : s.size ≤ maxLen) :
    Calls Try.prog 3 #[.string s] w fun e w' => e = .returned (.bool true) ∧ Below w.heap.size w w' := by
  have hs' := hs
  unfold maxLen at hs'
  by_cases h : 1048576 < s.size
  · go_enter Try.func3, Try.ntmps3
    go_wp2
    go_ret
    exact ⟨rfl, Below.refl _ _⟩
  · obtain ⟨b, hb⟩ : ∃ b, M.octR s = b := ⟨_, rfl⟩
    have h1 : Hid (∀ W, Calls Try.prog 5 #[.string s] W fun e w' => e = .returned (.int .i64 b) ∧ W = w') := fun W => by have := sOctR_any s W hs; rwa [hb] at this
    have h2 : Hid (∀ W, Calls Try.prog 6 #[.string s] W fun e w' => e = .returned (.int .i64 b) ∧ W = w') := fun W => by have := iOctR_any s W hs; rwa [hb] at this
    clear hb
    go_enter Try.func3, Try.ntmps3
    go_wp2_with (first | (go_at_call 5; refine (h1.out _).mono ?_; rintro e w1 ⟨rfl, rfl⟩) | (go_at_call 6; refine (h2.out _).mono ?_; rintro e w2 ⟨rfl, rfl⟩))
    go_ret
    exact ⟨rfl, Below.refl _ _⟩
end Go.Proofs.Ytbmbcfnlpbbapah
