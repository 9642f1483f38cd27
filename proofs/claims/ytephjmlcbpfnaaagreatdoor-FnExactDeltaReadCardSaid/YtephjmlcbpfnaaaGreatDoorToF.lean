/-
  What toFileS of the laws does, in few words: the same files in memory of their own.
-/
import Derived.Test.YtephjmlcbpfnaaaGreatDoorPart13
import Derived.WalkKit
namespace Go.Proofs.YtephjmlcbpfnaaaGreatDoor
open Go.RowKit

theorem toF_any (w : World) (a : Option Addr) (len cap : Nat) (fs : List M.FileD) (h : M.Files w a len cap fs) (hlen : len ≤ 1048576) :
    Calls Tryz.prog 25 #[.slice a len cap] w fun e w' => ∃ b, e = .returned (.slice (some ⟨b, 0, none⟩) len len) ∧ M.Files w' (some ⟨b, 0, none⟩) len len fs ∧ Below w.heap.size w w' := by
  refine (toFileS_any w a len cap fs h hlen).mono ?_
  rintro e w' ⟨rfl, hat, _, hb⟩
  exact ⟨_, rfl, ⟨h.1, Nat.le_refl _, by unfold maxLen; omega, fun _ => ⟨_, 0, rfl, hat⟩⟩, hb⟩
end Go.Proofs.YtephjmlcbpfnaaaGreatDoor
