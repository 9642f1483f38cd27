/-
  The laws over Crc and CrcMore.
-/
import Derived.Test.YtbmbcfnlpbbapafCrcSpec
namespace Go.Proofs.Ytbmbcfnlpbbapaf
open Go.RowKit

set_option maxHeartbeats 400000 in
theorem fnExactCrc_walk (s : ByteArray) (w : World) (hs : s.size ≤ maxLen) :
    Calls Try.prog 4 #[.string s] w fun e w' => e = .returned (.bool true) ∧ Below w.heap.size w w' := by
  have hs' := hs
  unfold maxLen at hs'
  by_cases h : 1048576 < s.size
  · go_enter Try.func4, Try.ntmps4
    go_wp2
    go_ret
    exact ⟨rfl, Below.refl _ _⟩
  · go_enter Try.func4, Try.ntmps4
    go_wp2_with (first | (go_at_call 9; refine (sCrc_any s _ hs).mono ?_; rintro e w1 ⟨rfl, rfl⟩) | (go_at_call 10; refine (iCrc_any s _ hs).mono ?_; rintro e w2 ⟨rfl, rfl⟩))
    go_ret
    exact ⟨rfl, Below.refl _ _⟩

set_option maxHeartbeats 400000 in
theorem fnExactCrcMore_walk (crc : Int) (s : ByteArray) (w : World) (h1 : -9223372036854775808 ≤ crc) (h2 : crc ≤ 9223372036854775807) (hs : s.size ≤ maxLen) :
    Calls Try.prog 5 #[.int .i64 crc, .string s] w fun e w' => e = .returned (.bool true) ∧ Below w.heap.size w w' := by
  have hs' := hs
  unfold maxLen at hs'
  by_cases h : 1048576 < s.size
  · go_enter Try.func5, Try.ntmps5
    go_wp2
    go_ret
    exact ⟨rfl, Below.refl _ _⟩
  · go_enter Try.func5, Try.ntmps5
    go_wp2_with (first | (go_at_call 11; refine (sCrcMore_any crc s _ h1 h2 hs).mono ?_; rintro e w1 ⟨rfl, rfl⟩) | (go_at_call 12; refine (iCrcMore_any crc s _ h1 h2 hs).mono ?_; rintro e w2 ⟨rfl, rfl⟩))
    go_ret
    exact ⟨rfl, Below.refl _ _⟩
end Go.Proofs.Ytbmbcfnlpbbapaf
