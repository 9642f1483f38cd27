/-
  Rows of parts of the call's own, behind changes of an interval of blocks.
-/
import Derived.Test.YtpokcbcffijheabOwnParts
import Derived.Test.YtpokcbcffijheabMidW
namespace Go.Proofs.Ytpokcbcffijheab
open Go.RowKit

theorem M.OwnPt.mid {lo hi base : Nat} {w w' : World} {v : Value} {ps : List M.PartD} (h : M.OwnPt w base v ps) (hm : M.Mid lo hi w w') (ho : ∀ g, v.ownBlock = some g → g < lo ∨ hi ≤ g) : M.OwnPt w' base v ps := by
  obtain ⟨hl, h0 | ⟨g, cap, cur, hv, hg, hh, hr⟩⟩ := h
  · exact ⟨hl, .inl h0⟩
  · exact ⟨hl, .inr ⟨g, cap, cur, hv, hg, by rw [hm.block g (Array.getElem?_eq_some_iff.1 hh).1 (ho g (by rw [hv]; rfl))]; exact hh, hr⟩⟩
end Go.Proofs.Ytpokcbcffijheab
