/-
  More on rows of texts that a call owns.
-/
import Derived.Test.YtappficbjjkmiaaPart4
import Derived.Test.YtappficbjjkmiaaPart6
import Derived.Below
namespace Go.Proofs.Ytappficbjjkmiaa
open Go.RowKit

theorem M.OwnS.lower {w : World} {base low : Nat} {v : Value} {ss : List ByteArray} (h : M.OwnS w base v ss) (hb : low ≤ base) : M.OwnS w low v ss := by
  obtain ⟨hl, h0 | ⟨g, cap, cur, hv, hg, hr⟩⟩ := h
  · exact ⟨hl, .inl h0⟩
  · exact ⟨hl, .inr ⟨g, cap, cur, hv, Nat.le_trans hb hg, hr⟩⟩
theorem M.OwnS.setLow {w : World} {base : Nat} {v : Value} {ss : List ByteArray} (h : M.OwnS w base v ss) {H : Nat} (hH : H < base) (j : Nat) (u : Value) : M.OwnS (w.setCell ⟨H, j, none⟩ u) base v ss := by
  obtain ⟨hl, h0 | ⟨g, cap, cur, hv, hg, hh, hr⟩⟩ := h
  · exact ⟨hl, .inl h0⟩
  · exact ⟨hl, .inr ⟨g, cap, cur, hv, hg, by rw [M.setfr (by omega)]; exact hh, hr⟩⟩
theorem M.OwnS.len {w : World} {base : Nat} {v : Value} {ss : List ByteArray} (h : M.OwnS w base v ss) : ∃ a cap, v = .slice a ss.length cap := by
  obtain ⟨a, cap, hv, _⟩ := h.strs
  exact ⟨a, cap, hv⟩
theorem M.empty_row (W : World) (T : TypeId) (base : Nat) (h : base ≤ W.heap.size) : (W.alloc (.cells #[] T)).ownsRow base T 1 (.slice (some ⟨W.heap.size, 0, none⟩) 0 0) 0 [] :=
  ⟨rfl, .inr ⟨_, 0, #[], rfl, h, heap_alloc_new _ _, Nat.le_refl _, by decide, rfl, rfl⟩⟩
theorem M.Strs.src {w : World} {ad : Addr} {len cap : Nat} {ss : List ByteArray} (h : M.Strs w (some ad) len cap ss) : ∀ j u, (ss.map Value.string)[j]? = some u → w.cell? (ad.add j) = some u := by
  intro j u hu
  rw [List.getElem?_map] at hu
  have hj : j < ss.length := by
    by_cases hj : j < ss.length
    · exact hj
    · rw [List.getElem?_eq_none (by omega)] at hu; cases hu
  rw [List.getElem?_eq_getElem hj] at hu
  obtain ⟨h1, -, -, h4⟩ := h
  obtain ⟨b, off, hb, hf⟩ := h4 (by omega)
  obtain rfl := Option.some.inj hb
  rw [Addr.add_lit, hf j hj]
  exact hu
end Go.Proofs.Ytappficbjjkmiaa
