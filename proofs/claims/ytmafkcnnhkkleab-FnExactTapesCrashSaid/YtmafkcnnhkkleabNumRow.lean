/-
  A row of numbers that a call owns.
-/
import Derived.Test.YtmafkcnnhkkleabRows
import Derived.WalkKit
import Derived.WalkSpells
import Derived.WalkLawsBesides
namespace Go.Proofs.Ytmafkcnnhkkleab
open Go.RowKit

theorem Try.infoN : (Try.prog.info? 2).map (fun i => (i.zero, i.size, i.bytes)) = some (some (.int .i64 0), 1, 8) := by kernel_rfl
def M.nv (n : Int) : Value := .int .i64 n
/-- A slice that the call owns holds these numbers. -/
def M.OwnN (w : World) (base : Nat) (v : Value) (zs : List Int) : Prop := w.ownsRow base 2 1 v zs.length (zs.map M.nv)
theorem M.OwnN.nil (w : World) (base : Nat) : M.OwnN w base (.slice none 0 0) [] := ⟨rfl, .inl ⟨rfl, rfl⟩⟩
theorem M.OwnN.below {w W : World} {base : Nat} {v : Value} {zs : List Int} (h : M.OwnN w base v zs) (hb : Below w.heap.size w W) : M.OwnN W base v zs := by
  obtain ⟨hl, h0 | ⟨g, cap, cur, hv, hg, hh, hn, hc, hz, ht⟩⟩ := h
  · exact ⟨hl, .inl h0⟩
  · exact ⟨hl, .inr ⟨g, cap, cur, hv, hg, by rw [hb.block g (Array.getElem?_eq_some_iff.1 hh).1]; exact hh, hn, hc, hz, ht⟩⟩
theorem M.OwnN.down {w : World} {b b' : Nat} {v : Value} {zs : List Int} (h : M.OwnN w b v zs) (hb : b' ≤ b) : M.OwnN w b' v zs := by
  obtain ⟨hl, h0 | ⟨g, cap, cur, hv, hg, hr⟩⟩ := h
  · exact ⟨hl, .inl h0⟩
  · exact ⟨hl, .inr ⟨g, cap, cur, hv, Nat.le_trans hb hg, hr⟩⟩
theorem M.OwnN.more {w : World} {base : Nat} {v : Value} {zs : List Int} {z : Int} (h : w.ownsRow base 2 1 v (zs.length + 1) (zs.map M.nv ++ [M.nv z])) : M.OwnN w base v (zs ++ [z]) := by
  unfold M.OwnN
  rw [List.length_append, List.map_append]
  exact h
/-- The numbers lie in a row of a block that may be written. -/
def M.NumsAt (w : World) (g cap : Nat) (zs : List Int) : Prop := ∃ cur, w.heap[g]? = some (.cells cur 2 (0, 0)) ∧ zs.length ≤ cap ∧ cur.size = cap ∧ cur.toList.take zs.length = zs.map M.nv
theorem M.OwnN.at {w : World} {base : Nat} {v : Value} {zs : List Int} (h : M.OwnN w base v zs) : (v = .slice none 0 0 ∧ zs = []) ∨ ∃ g cap, v = .slice (some ⟨g, 0, none⟩) zs.length cap ∧ base ≤ g ∧ cap ≤ maxLen ∧ M.NumsAt w g cap zs := by
  obtain ⟨hl, ⟨h0, h1⟩ | ⟨g, cap, cur, hv, hg, hh, hn, hc, hz, ht⟩⟩ := h
  · exact .inl ⟨h0, List.eq_nil_of_length_eq_zero h1⟩
  · exact .inr ⟨g, cap, hv, hg, hc, cur, hh, hn, by rw [hz, Nat.mul_one], by rw [← ht, Nat.mul_one]⟩
theorem M.NumsAt.own {w : World} {g cap base : Nat} {zs : List Int} (h : M.NumsAt w g cap zs) (hc : cap ≤ maxLen) (hg : base ≤ g) : M.OwnN w base (.slice (some ⟨g, 0, none⟩) zs.length cap) zs := by
  obtain ⟨cur, hh, hn, hz, ht⟩ := h
  exact ⟨by simp, .inr ⟨g, cap, cur, rfl, hg, hh, hn, hc, by rw [hz, Nat.mul_one], by rw [Nat.mul_one, ht]⟩⟩
theorem M.NumsAt.lt {w : World} {g cap : Nat} {zs : List Int} (h : M.NumsAt w g cap zs) : g < w.heap.size := by
  obtain ⟨cur, hh, _⟩ := h
  exact (Array.getElem?_eq_some_iff.1 hh).1
theorem M.NumsAt.cell {w : World} {g cap : Nat} {zs : List Int} (h : M.NumsAt w g cap zs) (i : Nat) (hi : i < zs.length) : w.cell? ⟨g, i, none⟩ = some (.int .i64 zs[i]) := by
  obtain ⟨cur, hh, hn, hz, ht⟩ := h
  have e : (zs.map M.nv)[i]? = some (.int .i64 zs[i]) := by simp [hi, M.nv]
  rw [← ht, List.getElem?_take_of_lt hi] at e
  simp only [World.cell?, hh]
  simpa using e
theorem M.NumsAt.free {w : World} {g cap : Nat} {zs : List Int} (h : M.NumsAt w g cap zs) (i : Nat) : w.frozen? ⟨g, i, none⟩ = false := by
  obtain ⟨cur, hh, _⟩ := h
  simp [World.frozen?, hh]
theorem M.NumsAt.of_block {w w' : World} {g cap : Nat} {zs : List Int} (h : M.NumsAt w g cap zs) (hb : w'.heap[g]? = w.heap[g]?) : M.NumsAt w' g cap zs := by
  obtain ⟨cur, hh, hr⟩ := h
  exact ⟨cur, hb.trans hh, hr⟩
theorem M.NumsAt.set {w : World} {g cap : Nat} {zs : List Int} (h : M.NumsAt w g cap zs) (i : Nat) (z : Int) : M.NumsAt (w.setCell ⟨g, i, none⟩ (.int .i64 z)) g cap (zs.set i z) := by
  obtain ⟨cur, hh, hn, hz, ht⟩ := h
  refine ⟨cur.setIfInBounds i (.int .i64 z), ?_, by rw [List.length_set]; exact hn, by rw [Array.size_setIfInBounds]; exact hz, ?_⟩
  · simp only [World.setCell, Array.getElem?_modify, hh]
    simp
  · rw [List.length_set, Array.toList_setIfInBounds, List.take_set, ht, List.map_set]
    rfl
theorem M.grownS {w0 W : World} {g : Nat} (h : w0.grownBy W (some g)) (j : Nat) (v : Value) : w0.grownBy (W.setCell ⟨g, j, none⟩ v) (some g) :=
  ⟨h.os, h.tape, h.output, by have := h.size; simp [World.setCell]; omega, fun k hk hne => by
    rw [Below.heap_setCell W ⟨g, j, none⟩ v k (fun e => hne (by rw [e]))]; exact h.block k hk hne⟩
end Go.Proofs.Ytmafkcnnhkkleab
