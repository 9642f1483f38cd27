/-
  A row of texts that a call owns and makes longer.
-/
import Derived.Test.YtappficbjjkmiaaPart1
import Derived.Test.YtappficbjjkmiaaRows
import Derived.WalkKit
import Derived.WalkSpells
import Derived.WalkLawsBesides
namespace Go.Proofs.Ytappficbjjkmiaa
open Go.RowKit

theorem Try.infoTx : (Try.prog.info? 9).map (fun i => (i.zero, i.size, i.bytes)) = some (some (.string ⟨#[]⟩), 1, 16) := by kernel_rfl
/-- A slice that the call owns holds these texts. -/
def M.OwnS (w : World) (base : Nat) (v : Value) (ss : List ByteArray) : Prop := w.ownsRow base 9 1 v ss.length (ss.map Value.string)
theorem M.OwnS.nil (w : World) (base : Nat) : M.OwnS w base (.slice none 0 0) [] := ⟨rfl, .inl ⟨rfl, rfl⟩⟩
theorem M.OwnS.below {w W : World} {base : Nat} {v : Value} {ss : List ByteArray} (h : M.OwnS w base v ss) (hb : Below w.heap.size w W) : M.OwnS W base v ss := by
  obtain ⟨hl, h0 | ⟨g, cap, cur, hv, hg, hh, hn, hc, hz, ht⟩⟩ := h
  · exact ⟨hl, .inl h0⟩
  · exact ⟨hl, .inr ⟨g, cap, cur, hv, hg, by rw [hb.block g (Array.getElem?_eq_some_iff.1 hh).1]; exact hh, hn, hc, hz, ht⟩⟩
theorem M.OwnS.more {w : World} {base : Nat} {v : Value} {ss : List ByteArray} {s : ByteArray} (h : w.ownsRow base 9 1 v (ss.length + 1) (ss.map Value.string ++ [.string s])) : M.OwnS w base v (ss ++ [s]) := by
  unfold M.OwnS
  rw [List.length_append, List.map_append]
  exact h
theorem M.OwnS.strs {w : World} {base : Nat} {v : Value} {ss : List ByteArray} (h : M.OwnS w base v ss) : ∃ a cap, v = .slice a ss.length cap ∧ M.Strs w a ss.length cap ss := by
  obtain ⟨hl, ⟨rfl, h0⟩ | ⟨g, cp, cur, hv, hb, hh, hn, hc, hz, ht⟩⟩ := h
  · rw [h0]
    exact ⟨none, 0, rfl, by rw [h0], Nat.le_refl _, Nat.zero_le _, fun h => absurd h (Nat.lt_irrefl _)⟩
  · refine ⟨_, cp, hv, rfl, hn, hc, fun _ => ⟨g, 0, rfl, fun i hi => ?_⟩⟩
    have e : (ss.map Value.string)[i]? = some (.string ss[i]) := by simp [hi]
    rw [← ht, Nat.mul_one, List.getElem?_take_of_lt hi] at e
    simp only [World.cell?, hh, Nat.zero_add]
    simpa using e
theorem M.one_n (w : World) (s : ByteArray) (T : TypeId) : ∀ j u, ([Value.string s])[j]? = some u → (w.alloc (.cells #[.string s] T)).cell? ((⟨w.heap.size, 0, none⟩ : Addr).add j) = some u := by
  intro j u hu
  rw [Addr.add_lit, Nat.zero_add, World.cell?_alloc_mark]
  simpa using hu
theorem M.oneCellS (s : ByteArray) : ∀ v ∈ [Value.string s], v.oneCell' = true := by
  intro v hv
  rw [List.mem_singleton] at hv
  rw [hv]; rfl
end Go.Proofs.Ytappficbjjkmiaa
