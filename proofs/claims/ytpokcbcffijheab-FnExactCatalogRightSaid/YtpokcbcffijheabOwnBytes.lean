/-
  A row of bytes that a call owns, and the text that is made of it.
-/
import Derived.Test.YtpokcbcffijheabArrMath
import Derived.Laws.BytesArg
import Derived.Lib.AppendStr
namespace Go.Proofs.Ytpokcbcffijheab
open Go.RowKit

/-- A slice that the call owns holds these bytes. -/
def M.OwnB (w : World) (base : Nat) (v : Value) (L : List UInt8) : Prop := w.ownsRow base 5 1 v L.length (L.map M.u8)
theorem M.OwnB.conv {w W : World} {base : Nat} {v : Value} {L : List UInt8} (h : M.OwnB w base v L) (hb : Below w.heap.size w W) : (convert 88 9 v).run Try.prog W = .ok (.string ⟨L.toArray⟩) W := by
  obtain ⟨hl, ⟨rfl, h0⟩ | ⟨g, cap, cur, rfl, hg, hh, hn, hc, hz, ht⟩⟩ := h
  · have hL : L = [] := List.eq_nil_of_length_eq_zero h0
    rw [run_convert_bytes_nil W 88 5 Try.underlying88 Try.underlying5 0 0 9 Try.underlying9, hL]
    rfl
  · refine run_convert_bytes_back W 88 9 5 ⟨g, 0, none⟩ cap L Try.underlying88 Try.underlying5 Try.underlying9 (fun i hi => ?_)
    have hgl : g < w.heap.size := (Array.getElem?_eq_some_iff.1 hh).1
    rw [Addr.add_lit, Nat.zero_add, hb.cell (p := ⟨g, i, none⟩) hgl]
    have hi' : (L.map M.u8)[i]? = some (M.u8 L[i]) := by simp [hi]
    rw [← ht, Nat.mul_one, List.getElem?_take_of_lt hi] at hi'
    simp only [World.cell?, hh]
    simpa [M.u8] using hi'
theorem M.OwnB.below {w W : World} {base : Nat} {v : Value} {L : List UInt8} (h : M.OwnB w base v L) (hb : Below w.heap.size w W) : M.OwnB W base v L := by
  obtain ⟨hl, h0 | ⟨g, cap, cur, hv, hg, hh, hn, hc, hz, ht⟩⟩ := h
  · exact ⟨hl, .inl h0⟩
  · exact ⟨hl, .inr ⟨g, cap, cur, hv, hg, by rw [hb.block g (Array.getElem?_eq_some_iff.1 hh).1]; exact hh, hn, hc, hz, ht⟩⟩
theorem M.strCells_u8 (s : ByteArray) : Lib.strCells s = s.data.toList.map M.u8 := rfl
theorem M.OwnB.more {w : World} {base : Nat} {v : Value} {L : List UInt8} {s : ByteArray} (h : w.ownsRow base 5 1 v (L.length + s.size) (L.map M.u8 ++ Lib.strCells s)) : M.OwnB w base v (L ++ s.data.toList) := by
  unfold M.OwnB
  rw [List.length_append, ← Lib.size_eq, List.map_append, ← M.strCells_u8]
  exact h
theorem M.OwnB.len {w : World} {base : Nat} {v : Value} {L : List UInt8} (h : M.OwnB w base v L) : ∃ a cap, v = .slice a L.length cap := by
  obtain ⟨hl, ⟨rfl, h0⟩ | ⟨g, cap, cur, rfl, _⟩⟩ := h
  · exact ⟨none, 0, by rw [h0]⟩
  · exact ⟨_, _, rfl⟩
end Go.Proofs.Ytpokcbcffijheab
