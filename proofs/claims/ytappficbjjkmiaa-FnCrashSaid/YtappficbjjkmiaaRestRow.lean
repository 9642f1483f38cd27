/-
  What is left of a row of texts that is cut from its head.
-/
import Derived.Test.YtappficbjjkmiaaOwnTapeOff
import Derived.Test.YtappficbjjkmiaaIPartBl
namespace Go.Proofs.Ytappficbjjkmiaa
open Go.RowKit

/-- A slice in a row of texts, and the row's block, if it has one. -/
def M.Rest (w : World) (rb : Option Nat) (v : Value) (bs : List ByteArray) : Prop := ∃ a c, v = .slice a bs.length c ∧ M.Strs w a bs.length c bs ∧ (a.map fun x => x.block) = rb ∧ (a = none → c = 0)
theorem M.Rest.ofOwn {w : World} {base : Nat} {v : Value} {bs : List ByteArray} (h : M.OwnS w base v bs) : M.Rest w v.ownBlock v bs := by
  obtain ⟨a, c, e, hs⟩ := h.strs
  refine ⟨a, c, e, hs, ?_, h.noneCap e⟩
  rw [e]
  cases a <;> rfl
theorem M.Rest.keptAt {w W : World} {rb : Option Nat} {v : Value} {bs : List ByteArray} (h : M.Rest w rb v bs) (hb : ∀ b, rb = some b → b < w.heap.size → W.heap[b]? = w.heap[b]?) : M.Rest W rb v bs := by
  obtain ⟨a, c, e, ⟨h1, h2, h3, h4⟩, h5, h6⟩ := h
  refine ⟨a, c, e, ⟨h1, h2, h3, fun hl => ?_⟩, h5, h6⟩
  obtain ⟨b, off, rfl, hat⟩ := h4 hl
  have c0 := hat 0 hl
  exact ⟨b, off, rfl, hat.of_block (hb b h5.symm (World.block_lt_of_cell? w _ c0))⟩
theorem M.Rest.below {w W : World} {rb : Option Nat} {v : Value} {bs : List ByteArray} (h : M.Rest w rb v bs) (hb : Below w.heap.size w W) : M.Rest W rb v bs := h.keptAt fun b _ hl => hb.block b hl
theorem M.Rest.drop {w : World} {rb : Option Nat} {a : Option Addr} {n c k : Nat} {bs : List ByteArray} (h : M.Rest w rb (.slice a n c) bs) (hk : k ≤ n) : M.Rest w rb (sliced a k n c 1) (bs.drop k) := by
  obtain ⟨a', c', e, hs, h5, h6⟩ := h
  cases e
  have hlen : (bs.drop k).length = bs.length - k := List.length_drop
  have hc := hs.2.1
  unfold sliced
  by_cases hck : c = k
  · subst hck
    have hz : bs.length = c := by omega
    rw [if_pos rfl]
    have hd : bs.drop c = [] := by rw [← hz, List.drop_length]
    refine ⟨a, c - c, by rw [hlen], ?_, h5, fun _ => Nat.sub_self _⟩
    rw [hd]
    exact ⟨rfl, Nat.zero_le _, by rw [Nat.sub_self]; exact Nat.zero_le _, fun h => absurd h (Nat.lt_irrefl _)⟩
  · rw [if_neg hck]
    refine ⟨a.map (fun x => x.add (k * 1)), c - k, by rw [hlen], ?_, ?_, fun h => ?_⟩
    · have := hs.sub k (bs.length - k) (by omega)
      rw [Nat.mul_one, hlen]
      rw [List.take_of_length_le (by rw [hlen]; exact Nat.le_refl _)] at this
      exact this
    · rw [← h5]
      cases a with
      | none => rfl
      | some x =>
        simp only [Option.map_some, Addr.add]
        split <;> rfl
    · cases a with
      | none => rw [h6 rfl, Nat.zero_sub]
      | some x => cases h
end Go.Proofs.Ytappficbjjkmiaa
