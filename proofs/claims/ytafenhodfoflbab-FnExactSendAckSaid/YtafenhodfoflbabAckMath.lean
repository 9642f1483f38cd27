/-
  What an acknowledgement makes of a sender.
-/
import Derived.Test.YtafenhodfoflbabSendCopy
namespace Go.Proofs.Ytafenhodfoflbab
open Go.RowKit

/-- Is it one that brings the sender on? -/
def M.ackR (ss : List ByteArray) (x d t k now : Int) : Prop := M.sndR ss x d t = true ∧ (0 ≤ now ∧ now ≤ 1000000000) ∧ x < k ∧ k ≤ (ss.length : Int)
/-- What stands behind the pieces then. -/
def M.ackOut (ss : List ByteArray) (x d t k now y0 y1 y2 : Int) : Prop := (M.ackR ss x d t k now → y0 = k ∧ y1 = now ∧ y2 = 1) ∧ (¬ M.ackR ss x d t k now → y0 = x ∧ y1 = d ∧ y2 = t)
theorem M.ackOut.same {ss : List ByteArray} {x d t k now y0 y1 y2 z0 z1 z2 : Int} (h : M.ackOut ss x d t k now y0 y1 y2) (h' : M.ackOut ss x d t k now z0 z1 z2) : y0 = z0 ∧ y1 = z1 ∧ y2 = z2 := by
  by_cases hr : M.ackR ss x d t k now
  · obtain ⟨rfl, rfl, rfl⟩ := h.1 hr
    obtain ⟨rfl, rfl, rfl⟩ := h'.1 hr
    exact ⟨rfl, rfl, rfl⟩
  · obtain ⟨rfl, rfl, rfl⟩ := h.2 hr
    obtain ⟨rfl, rfl, rfl⟩ := h'.2 hr
    exact ⟨rfl, rfl, rfl⟩
theorem M.ackOut.no {ss : List ByteArray} {x d t k now : Int} (h : ¬ M.ackR ss x d t k now) : M.ackOut ss x d t k now x d t := ⟨fun hr => absurd hr h, fun _ => ⟨rfl, rfl, rfl⟩⟩
theorem M.ackOut.yes {ss : List ByteArray} {x d t k now : Int} (h : M.ackR ss x d t k now) : M.ackOut ss x d t k now k now 1 := ⟨fun _ => ⟨rfl, rfl, rfl⟩, fun hr => absurd h hr⟩
theorem M.OwnS.setAt {w : World} {base : Nat} {v : Value} {ss : List ByteArray} (h : M.OwnS w base v ss) {H : Nat} (hH : ∀ g, v.ownBlock = some g → g ≠ H) (j : Nat) (u : Value) : M.OwnS (w.setCell ⟨H, j, none⟩ u) base v ss := by
  obtain ⟨hl, h0 | ⟨g, cap, cur, hv, hg, hh, hr⟩⟩ := h
  · exact ⟨hl, .inl h0⟩
  · have hne : H ≠ g := fun e => hH g (by rw [hv]; rfl) e.symm
    exact ⟨hl, .inr ⟨g, cap, cur, hv, hg, by rw [M.setfr hne]; exact hh, hr⟩⟩
end Go.Proofs.Ytafenhodfoflbab
