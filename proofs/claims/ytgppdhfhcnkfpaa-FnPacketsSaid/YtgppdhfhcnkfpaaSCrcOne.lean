/-
  Crc of the specification, by itself.
-/
import Derived.Test.YtgppdhfhcnkfpaaCrcBase
namespace Go.Proofs.Ytgppdhfhcnkfpaa
open Go.RowKit

set_option maxHeartbeats 400000 in
theorem sCrcT_any (s : ByteArray) (w : World) (hs : s.size ≤ maxLen) :
    Calls Try.prog 74 #[.string s] w fun e w' => e = .returned (.int .i64 (M.crcMore 0 s)) ∧ w = w' := by
  unfold maxLen at hs
  by_cases ha : 20000 < s.size
  · have hE : Hid (M.crcMore 0 s = 0) := M.crcMore_no (.inl ha)
    go_enter Try.func74, Try.ntmps74
    go_wp2
    go_ret
    exact ⟨by rw [hE.out]; rfl, rfl⟩
  · rw [M.crcMore_yes (by omega)]
    go_enter Try.func74, Try.ntmps74
    go_wp2_with (go_at_call 79; refine (sCrc_in 0 s _ (by omega) (by omega)).mono ?_; rintro e w' ⟨rfl, rfl⟩)
    go_ret
    exact ⟨rfl, rfl⟩

end Go.Proofs.Ytgppdhfhcnkfpaa
