/-
  A row of numbers that a call owns; the chain of a mark.
-/
import Derived.Test.YtfkadlnfkgheaaaTowRight
import Derived.Test.YtfkadlnfkgheaaaRows
import Derived.WalkKit
import Derived.WalkSpells
import Derived.WalkLawsBesides
namespace Go.Proofs.Ytfkadlnfkgheaaa
open Go.RowKit

theorem Try.infoN : (Try.prog.info? 2).map (fun i => (i.zero, i.size, i.bytes)) = some (some (.int .i64 0), 1, 8) := by kernel_rfl
def M.nv (n : Int) : Value := .int .i64 n
/-- A slice that the call owns holds these numbers. -/
def M.OwnN (w : World) (base : Nat) (v : Value) (zs : List Int) : Prop := w.ownsRow base 2 1 v zs.length (zs.map M.nv)
theorem M.OwnN.nil (w : World) (base : Nat) : M.OwnN w base (.slice none 0 0) [] := ⟨rfl, .inl ⟨rfl, rfl⟩⟩
theorem M.OwnN.below {w W : World} {base : Nat} {v : Value} {zs : List Int} (h : M.OwnN w base v zs) (hb : Below w.heap.size w W) : M.OwnN W base v zs := by
  obtain ⟨hl, h0 | ⟨g, cap, cur, hv, hg, hh, hn, hc, hz, ht⟩⟩ := h
  · exact ⟨hl, .inl h0⟩
  · exact ⟨hl, .inr ⟨g, cap, cur, hv, hg, by rw [hb.block g (Array.getElem?_eq_some_iff.1 hh).1]; exact hh, hn, hc, hz, ht⟩⟩
theorem M.OwnN.down {w : World} {b b' : Nat} {v : Value} {zs : List Int} (h : M.OwnN w b v zs) (hb : b' ≤ b) : M.OwnN w b' v zs := by
  obtain ⟨hl, h0 | ⟨g, cap, cur, hv, hg, hr⟩⟩ := h
  · exact ⟨hl, .inl h0⟩
  · exact ⟨hl, .inr ⟨g, cap, cur, hv, Nat.le_trans hb hg, hr⟩⟩
theorem M.OwnN.more {w : World} {base : Nat} {v : Value} {zs : List Int} {z : Int} (h : w.ownsRow base 2 1 v (zs.length + 1) (zs.map M.nv ++ [M.nv z])) : M.OwnN w base v (zs ++ [z]) := by
  unfold M.OwnN
  rw [List.length_append, List.map_append]
  exact h
/-- The numbers lie in a row of a block that may be written. -/
def M.NumsAt (w : World) (g cap : Nat) (zs : List Int) : Prop := ∃ cur, w.heap[g]? = some (.cells cur 2 (0, 0)) ∧ zs.length ≤ cap ∧ cur.size = cap ∧ cur.toList.take zs.length = zs.map M.nv
theorem M.OwnN.at {w : World} {base : Nat} {v : Value} {zs : List Int} (h : M.OwnN w base v zs) : (v = .slice none 0 0 ∧ zs = []) ∨ ∃ g cap, v = .slice (some ⟨g, 0, none⟩) zs.length cap ∧ base ≤ g ∧ cap ≤ maxLen ∧ M.NumsAt w g cap zs := by
  obtain ⟨hl, ⟨h0, h1⟩ | ⟨g, cap, cur, hv, hg, hh, hn, hc, hz, ht⟩⟩ := h
  · exact .inl ⟨h0, List.eq_nil_of_length_eq_zero h1⟩
  · exact .inr ⟨g, cap, hv, hg, hc, cur, hh, hn, by rw [hz, Nat.mul_one], by rw [← ht, Nat.mul_one]⟩
theorem M.NumsAt.own {w : World} {g cap base : Nat} {zs : List Int} (h : M.NumsAt w g cap zs) (hc : cap ≤ maxLen) (hg : base ≤ g) : M.OwnN w base (.slice (some ⟨g, 0, none⟩) zs.length cap) zs := by
  obtain ⟨cur, hh, hn, hz, ht⟩ := h
  exact ⟨by simp, .inr ⟨g, cap, cur, rfl, hg, hh, hn, hc, by rw [hz, Nat.mul_one], by rw [Nat.mul_one, ht]⟩⟩
theorem M.NumsAt.lt {w : World} {g cap : Nat} {zs : List Int} (h : M.NumsAt w g cap zs) : g < w.heap.size := by
  obtain ⟨cur, hh, _⟩ := h
  exact (Array.getElem?_eq_some_iff.1 hh).1
theorem M.NumsAt.cell {w : World} {g cap : Nat} {zs : List Int} (h : M.NumsAt w g cap zs) (i : Nat) (hi : i < zs.length) : w.cell? ⟨g, i, none⟩ = some (.int .i64 zs[i]) := by
  obtain ⟨cur, hh, hn, hz, ht⟩ := h
  have e : (zs.map M.nv)[i]? = some (.int .i64 zs[i]) := by simp [hi, M.nv]
  rw [← ht, List.getElem?_take_of_lt hi] at e
  simp only [World.cell?, hh]
  simpa using e
theorem M.NumsAt.free {w : World} {g cap : Nat} {zs : List Int} (h : M.NumsAt w g cap zs) (i : Nat) : w.frozen? ⟨g, i, none⟩ = false := by
  obtain ⟨cur, hh, _⟩ := h
  simp [World.frozen?, hh]
theorem M.NumsAt.of_block {w w' : World} {g cap : Nat} {zs : List Int} (h : M.NumsAt w g cap zs) (hb : w'.heap[g]? = w.heap[g]?) : M.NumsAt w' g cap zs := by
  obtain ⟨cur, hh, hr⟩ := h
  exact ⟨cur, hb.trans hh, hr⟩
theorem M.NumsAt.set {w : World} {g cap : Nat} {zs : List Int} (h : M.NumsAt w g cap zs) (i : Nat) (z : Int) : M.NumsAt (w.setCell ⟨g, i, none⟩ (.int .i64 z)) g cap (zs.set i z) := by
  obtain ⟨cur, hh, hn, hz, ht⟩ := h
  refine ⟨cur.setIfInBounds i (.int .i64 z), ?_, by rw [List.length_set]; exact hn, by rw [Array.size_setIfInBounds]; exact hz, ?_⟩
  · simp only [World.setCell, Array.getElem?_modify, hh]
    simp
  · rw [List.length_set, Array.toList_setIfInBounds, List.take_set, ht, List.map_set]
    rfl
theorem M.grownS {w0 W : World} {g : Nat} (h : w0.grownBy W (some g)) (j : Nat) (v : Value) : w0.grownBy (W.setCell ⟨g, j, none⟩ v) (some g) :=
  ⟨h.os, h.tape, h.output, by have := h.size; simp [World.setCell]; omega, fun k hk hne => by
    rw [Below.heap_setCell W ⟨g, j, none⟩ v k (fun e => hne (by rw [e]))]; exact h.block k hk hne⟩
/-- The Ids from a mark's on, by its Base, its Base's Base, and so on. -/
def M.up (ms : List M.MkD) : Nat → Int → List Int
  | 0, _ => []
  | f + 1, id => match M.found ms id with
    | none => []
    | some m => m.id :: M.up ms f m.base
theorem M.up_none {ms : List M.MkD} {f : Nat} {id : Int} (h : M.found ms id = none) : M.up ms f id = [] := by
  cases f with
  | zero => rfl
  | succ f => unfold M.up; rw [h]
theorem M.up_some {ms : List M.MkD} {f : Nat} {id : Int} {m : M.MkD} (h : M.found ms id = some m) : M.up ms (f + 1) id = m.id :: M.up ms f m.base := by
  rw [M.up, h]
/-- What is found of a mark's base stands ahead of it. -/
theorem M.base_ahead {ms : List M.MkD} (hr : M.MarksR ms) {k : Nat} {m : M.MkD} (hk : ms[k]? = some m) : M.found ms m.base = none ∨ ∃ (t : Nat) (b : M.MkD), t < k ∧ ms[t]? = some b ∧ M.found ms m.base = some b := by
  have hm := hr.2.mk hk
  unfold M.mkR at hm
  simp only [Bool.and_eq_true] at hm
  obtain ⟨h1, h2, h3⟩ := hm
  by_cases h0 : m.level = 0
  · rw [if_pos h0] at h3
    have hb := of_decide_eq_true h3
    left
    refine M.found_no fun t ht e => ?_
    have := hr.2.mk (List.getElem?_eq_getElem ht)
    unfold M.mkR at this
    simp only [Bool.and_eq_true] at this
    have := of_decide_eq_true this.1
    omega
  · rw [if_neg h0] at h3
    unfold M.baseR at h3
    cases hf : M.found (ms.take k) m.base with
    | none => rw [hf] at h3; cases h3
    | some b =>
      right
      have hk' := (List.getElem?_eq_some_iff.1 hk).1
      unfold M.found at hf
      rw [List.find?_eq_some_iff_getElem] at hf
      obtain ⟨hp, i, hi, hib, hlow⟩ := hf
      rw [List.length_take] at hi
      refine ⟨i, b, by omega, ?_, ?_⟩
      · rw [List.getElem?_eq_getElem (by omega), ← hib, List.getElem_take]
      · unfold M.found
        rw [List.find?_eq_some_iff_getElem]
        refine ⟨hp, i, by omega, by rw [← hib, List.getElem_take], fun j hj => ?_⟩
        have := hlow j hj
        rw [List.getElem_take] at this
        exact this
theorem M.found_place {ms : List M.MkD} {id : Int} {m : M.MkD} (h : M.found ms id = some m) : ∃ k : Nat, k < ms.length ∧ ms[k]? = some m := by
  obtain ⟨i, hi, e⟩ := List.mem_iff_getElem.1 (M.found_id h).2
  exact ⟨i, hi, by rw [List.getElem?_eq_getElem hi, e]⟩
/-- The chain of an Id. -/
def M.chain (ms : List M.MkD) (id : Int) : List Int := (M.up ms 61 id).reverse
theorem M.up_le {ms : List M.MkD} : ∀ (f : Nat) (id : Int), (M.up ms f id).length ≤ f
  | 0, _ => Nat.le_refl _
  | f + 1, id => by
    cases h : M.found ms id with
    | none => rw [M.up_none h]; simp
    | some m => rw [M.up_some h]; simp only [List.length_cons]; have := M.up_le f m.base (ms := ms); omega
end Go.Proofs.Ytfkadlnfkgheaaa
