/-
  Rows of tapes and rows of parts, both the call's own, that share no block: each behind what makes the other longer.
-/
import Derived.Test.YtappficbjjkmiaaPart8
import Derived.Test.YtappficbjjkmiaaPart9
namespace Go.Proofs.Ytappficbjjkmiaa
open Go.RowKit

/-- A block that neither the tapes nor their blocks lie in. -/
def M.offT (v : Value) (qs : List (M.TapeD × Value)) (b : Nat) : Prop := v.ownBlock ≠ some b ∧ ∀ p ∈ qs, p.2.ownBlock ≠ some b
/-- A row of parts lies in none of the tapes' blocks. -/
def M.aside (v : Value) (qs : List (M.TapeD × Value)) (u : Value) : Prop := ∀ b, u.ownBlock = some b → M.offT v qs b
theorem M.aside_nil (v : Value) (qs : List (M.TapeD × Value)) (n c : Nat) : M.aside v qs (.slice none n c) := fun _ h => by cases h
/-- The parts grew: they lie in no tape's block still. -/
theorem M.OwnT.asideNew {w : World} {lo hi : Nat} {v u u' : Value} {qs : List (M.TapeD × Value)} (h : M.OwnT w lo hi v qs) (ha : M.aside v qs u) (hhi : hi ≤ w.heap.size) (hloc : u'.ownBlock = u.ownBlock ∨ ∀ b, u'.ownBlock = some b → w.heap.size ≤ b) : M.aside v qs u' := fun b hb => by
  rcases hloc with e | e
  · exact ha b (by rw [← e]; exact hb)
  · have h1 := e b hb
    exact ⟨fun e2 => by have := h.top b e2; omega, fun p hp e2 => by have := (h.each p hp).2 b e2; omega⟩
/-- The tapes, behind what grew the parts. -/
theorem M.OwnT.grown {w W : World} {lo hi : Nat} {v u : Value} {qs : List (M.TapeD × Value)} (h : M.OwnT w lo hi v qs) (ha : M.aside v qs u) (hg : w.grownBy W u.ownBlock) : M.OwnT W lo hi v qs := by
  have hb : ∀ b, b < w.heap.size → (v.ownBlock = some b ∨ ∃ p ∈ qs, p.2.ownBlock = some b) → W.heap[b]? = w.heap[b]? := fun b hbl ho => hg.block b hbl (fun e => by
    obtain ⟨h1, h2⟩ := ha b e.symm
    rcases ho with h3 | ⟨p, hp, h3⟩
    · exact h1 h3
    · exact h2 p hp h3)
  obtain ⟨⟨hl, hr⟩, ht, he, hap⟩ := h
  refine ⟨⟨hl, ?_⟩, ht, fun p hp => ⟨(he p hp).1.keptAt (fun b h1 h2 => hb b h2 (.inr ⟨p, hp, h1⟩)), (he p hp).2⟩, hap⟩
  rcases hr with h0 | ⟨g, cap, cur, hv, hg', hh, hr⟩
  · exact .inl h0
  · exact .inr ⟨g, cap, cur, hv, hg', by rw [hb g (Array.getElem?_eq_some_iff.1 hh).1 (.inl (by rw [hv]; rfl))]; exact hh, hr⟩
/-- A row of parts, behind a change that leaves its block. -/
theorem M.OwnPt.keptAt {w W : World} {base : Nat} {v : Value} {ps : List M.PartD} (h : M.OwnPt w base v ps) (hb : ∀ g, v.ownBlock = some g → g < w.heap.size → W.heap[g]? = w.heap[g]?) : M.OwnPt W base v ps := by
  obtain ⟨hl, h0 | ⟨g, cap, cur, hv, hg, hh, hr⟩⟩ := h
  · exact ⟨hl, .inl h0⟩
  · exact ⟨hl, .inr ⟨g, cap, cur, hv, hg, by rw [hb g (by rw [hv]; rfl) (Array.getElem?_eq_some_iff.1 hh).1]; exact hh, hr⟩⟩
/-- The parts, behind what grew one tape. -/
theorem M.OwnPt.grownT {w W : World} {base : Nat} {v u : Value} {qs : List (M.TapeD × Value)} {ps : List M.PartD} {p : M.TapeD × Value} (h : M.OwnPt w base u ps) (ha : M.aside v qs u) (hp : p ∈ qs) (hg : w.grownBy W p.2.ownBlock) : M.OwnPt W base u ps :=
  h.keptAt fun b hb hbl => hg.block b hbl (fun e => (ha b hb).2 p hp e.symm)
/-- The parts, behind a cell of the tapes' row that is stored. -/
theorem M.OwnPt.setT {w : World} {base g n cap : Nat} {u : Value} {qs : List (M.TapeD × Value)} {ps : List M.PartD} (h : M.OwnPt w base u ps) (ha : M.aside (.slice (some ⟨g, 0, none⟩) n cap) qs u) (j : Nat) (x : Value) : M.OwnPt (w.setCell ⟨g, j, none⟩ x) base u ps :=
  h.keptAt fun b hb _ => by
    have hne : g ≠ b := fun e => (ha b hb).1 (by rw [e]; rfl)
    simp only [World.setCell, Array.getElem?_modify]
    rw [if_neg hne]
/-- The tapes grew: the parts lie in no tape's block still. -/
theorem M.aside_app {w : World} {base k : Nat} {v u u' : Value} {qs : List (M.TapeD × Value)} {ps : List M.PartD} {p q : M.TapeD × Value} (h : M.OwnPt w base u ps) (ha : M.aside v qs u) (hk : qs[k]? = some p) (hq : q.2 = u') (hloc : u'.ownBlock = p.2.ownBlock ∨ ∀ b, u'.ownBlock = some b → w.heap.size ≤ b) : M.aside v (qs.take k ++ q :: qs.drop (k + 1)) u := fun b hb => by
  obtain ⟨h1, h2⟩ := ha b hb
  refine ⟨h1, fun r hr => ?_⟩
  rcases List.mem_append.1 hr with h3 | h3
  · exact h2 r (List.mem_of_mem_take h3)
  · rcases List.mem_cons.1 h3 with rfl | h4
    · rw [hq]
      rcases hloc with e | e
      · rw [e]; exact h2 p (List.mem_of_getElem? hk)
      · intro e2
        have h5 := e b e2
        have h6 := (World.ownsRow.lt h b hb).2
        omega
    · exact h2 r (List.mem_of_mem_drop h4)
end Go.Proofs.Ytappficbjjkmiaa
