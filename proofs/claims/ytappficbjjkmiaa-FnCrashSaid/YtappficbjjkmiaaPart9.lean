/-
  Rows of parts in memory, and those that a call owns.
-/
import Derived.Test.YtappficbjjkmiaaPart6
import Derived.Test.YtappficbjjkmiaaRows
import Derived.WalkKit
import Derived.WalkSpells
namespace Go.Proofs.Ytappficbjjkmiaa
open Go.RowKit

/-- A part as data. -/
structure M.PartD where
  q : Int
  l : Int
  s : Int
  c : Int
/-- The parts lie in a row from a place on. -/
def M.PtsAt (w : World) (b off : Nat) (ps : List M.PartD) : Prop := ∀ i (h : i < ps.length), w.cell? ⟨b, off + i * 4, none⟩ = some (.int .i64 ps[i].q) ∧ w.cell? ⟨b, off + i * 4 + 1, none⟩ = some (.int .i64 ps[i].l) ∧ w.cell? ⟨b, off + i * 4 + 2, none⟩ = some (.int .i64 ps[i].s) ∧ w.cell? ⟨b, off + i * 4 + 3, none⟩ = some (.int .i64 ps[i].c)
/-- A slice of parts. -/
def M.Pts (w : World) (a : Option Addr) (len cap : Nat) (ps : List M.PartD) : Prop := len = ps.length ∧ len ≤ cap ∧ cap ≤ maxLen ∧ (0 < len → ∃ b off, a = some ⟨b, off, none⟩ ∧ M.PtsAt w b off ps)
theorem M.PtsAt.of_block {w w' : World} {b off : Nat} {ps : List M.PartD} (h : M.PtsAt w b off ps) (hb : w'.heap[b]? = w.heap[b]?) : M.PtsAt w' b off ps := fun i hi => by
  obtain ⟨h0, h1, h2, h3⟩ := h i hi
  exact ⟨(World.cell?_of_block (a := ⟨b, off + i * 4, none⟩) hb).trans h0, (World.cell?_of_block (a := ⟨b, off + i * 4 + 1, none⟩) hb).trans h1, (World.cell?_of_block (a := ⟨b, off + i * 4 + 2, none⟩) hb).trans h2, (World.cell?_of_block (a := ⟨b, off + i * 4 + 3, none⟩) hb).trans h3⟩
theorem M.Pts.below {w w' : World} {a : Option Addr} {len cap : Nat} {ps : List M.PartD} (h : M.Pts w a len cap ps) (hb : Below w.heap.size w w') : M.Pts w' a len cap ps := by
  obtain ⟨h1, h2, h3, h4⟩ := h
  refine ⟨h1, h2, h3, fun hl => ?_⟩
  obtain ⟨b, off, rfl, hf⟩ := h4 hl
  exact ⟨b, off, rfl, hf.of_block (hb.block b (World.block_lt_of_cell? w _ (hf 0 (by omega)).1))⟩
def M.ptcells (m : M.PartD) : List Value := [.int .i64 m.q, .int .i64 m.l, .int .i64 m.s, .int .i64 m.c]
def M.cellsPt (ms : List M.PartD) : List Value := ms.flatMap M.ptcells
theorem M.cellsPt_app (ms ns : List M.PartD) : M.cellsPt (ms ++ ns) = M.cellsPt ms ++ M.cellsPt ns := by simp [M.cellsPt]
theorem M.cellsPt_len (ms : List M.PartD) : (M.cellsPt ms).length = ms.length * 4 := by
  induction ms with
  | nil => rfl
  | cons f gs ih => simp only [M.cellsPt, List.flatMap_cons, List.length_append, List.length_cons] at ih ⊢; rw [ih]; simp [M.ptcells]; omega
theorem M.cellsPt_get : ∀ (ms : List M.PartD) (i : Nat) (h : i < ms.length) (c : Nat), c < 4 → (M.cellsPt ms)[i * 4 + c]? = (M.ptcells ms[i])[c]?
  | [], i, h, _, _ => absurd h (Nat.not_lt_zero _)
  | f :: gs, 0, _, c, hc => by
    simp only [M.cellsPt, List.flatMap_cons, Nat.zero_mul, Nat.zero_add, List.getElem_cons_zero]
    rw [List.getElem?_append_left (by simp [M.ptcells]; omega)]
  | f :: gs, i + 1, h, c, hc => by
    simp only [M.cellsPt, List.flatMap_cons, List.getElem_cons_succ]
    rw [List.getElem?_append_right (by simp [M.ptcells]; omega), show (i + 1) * 4 + c - (M.ptcells f).length = i * 4 + c by simp [M.ptcells]; omega]
    exact M.cellsPt_get gs i (by simpa using h) c hc
theorem M.oneCellPt (ms : List M.PartD) : ∀ v ∈ M.cellsPt ms, v.oneCell' = true := by
  intro v hv
  obtain ⟨m, -, hm⟩ := List.mem_flatMap.1 hv
  simp [M.ptcells] at hm
  rcases hm with rfl | rfl | rfl | rfl <;> rfl

/-- A slice of parts in a row that is the call's own. -/
def M.OwnPt (w : World) (base : Nat) (v : Value) (ms : List M.PartD) : Prop := w.ownsRow base 47 4 v ms.length (M.cellsPt ms)
theorem M.OwnPt.pts {w : World} {base : Nat} {v : Value} {ms : List M.PartD} (h : M.OwnPt w base v ms) : ∃ a cap, v = .slice a ms.length cap ∧ M.Pts w a ms.length cap ms := by
  obtain ⟨hl, ⟨rfl, h0⟩ | ⟨g, cp, cur, hv, hb, hh, hn, hc, hz, ht⟩⟩ := h
  · rw [h0]
    exact ⟨none, 0, rfl, by rw [h0], Nat.le_refl _, Nat.zero_le _, fun h => absurd h (Nat.lt_irrefl _)⟩
  · refine ⟨_, cp, hv, rfl, hn, hc, fun _ => ⟨g, 0, rfl, fun i hi => ?_⟩⟩
    have cell : ∀ c, c < 4 → w.cell? ⟨g, 0 + i * 4 + c, none⟩ = (M.ptcells ms[i])[c]? := fun c hcc => by
      rw [← M.cellsPt_get ms i hi c hcc, ← ht, List.getElem?_take_of_lt (by omega)]
      simp [World.cell?, hh]
    exact ⟨cell 0 (by omega), cell 1 (by omega), cell 2 (by omega), cell 3 (by omega)⟩
theorem M.OwnPt.below {w W : World} {base : Nat} {v : Value} {ms : List M.PartD} (h : M.OwnPt w base v ms) (hb : Below w.heap.size w W) : M.OwnPt W base v ms := by
  obtain ⟨hl, h0 | ⟨g, cap, cur, hv, hg, hh, hn, hc, hz, ht⟩⟩ := h
  · exact ⟨hl, .inl h0⟩
  · exact ⟨hl, .inr ⟨g, cap, cur, hv, hg, by rw [hb.block g (Array.getElem?_eq_some_iff.1 hh).1]; exact hh, hn, hc, hz, ht⟩⟩
theorem M.OwnPt.grown {W W' : World} {base : Nat} {v : Value} {ms : List M.PartD} {row : Option Nat} (h : M.OwnPt W base v ms) (hg : W.grownBy W' row) (hne : ∀ j, v.ownBlock = some j → some j ≠ row) : M.OwnPt W' base v ms := by
  obtain ⟨hl, h0 | ⟨g, cap, cur, hv, hb, hh, hr⟩⟩ := h
  · exact ⟨hl, .inl h0⟩
  · exact ⟨hl, .inr ⟨g, cap, cur, hv, hb, by rw [hg.block g (Array.getElem?_eq_some_iff.1 hh).1 (hne g (by rw [hv]; rfl))]; exact hh, hr⟩⟩
theorem M.OwnPt.down {w : World} {b b' : Nat} {v : Value} {ms : List M.PartD} (h : M.OwnPt w b v ms) (hb : b' ≤ b) : M.OwnPt w b' v ms := by
  obtain ⟨hl, h0 | ⟨g, cap, cur, hv, hg, hr⟩⟩ := h
  · exact ⟨hl, .inl h0⟩
  · exact ⟨hl, .inr ⟨g, cap, cur, hv, Nat.le_trans hb hg, hr⟩⟩
theorem M.OwnPt.empty (w : World) (W : World) (hb : w.heap.size ≤ W.heap.size) : M.OwnPt (W.alloc (.cells #[] 47)) w.heap.size (.slice (some ⟨W.heap.size, 0, none⟩) 0 0) [] :=
  ⟨rfl, .inr ⟨W.heap.size, 0, #[], rfl, hb, heap_alloc_new _ _, Nat.le_refl _, Nat.zero_le _, rfl, rfl⟩⟩
theorem M.OwnPt.more {w : World} {base : Nat} {v : Value} {ms : List M.PartD} {m : M.PartD} (h : w.ownsRow base 47 4 v (ms.length + 1) (M.cellsPt ms ++ M.ptcells m)) : M.OwnPt w base v (ms ++ [m]) := by
  unfold M.OwnPt
  rw [M.cellsPt_app, List.length_append, show M.cellsPt [m] = M.ptcells m by simp [M.cellsPt]]
  exact h
theorem M.OwnPt.nil (w : World) (base : Nat) : M.OwnPt w base (.slice none 0 0) [] := ⟨rfl, .inl ⟨rfl, rfl⟩⟩
theorem M.OwnPt.len {w : World} {base : Nat} {v : Value} {ps : List M.PartD} (h : M.OwnPt w base v ps) : ∃ a cap, v = .slice a ps.length cap := by
  obtain ⟨a, cap, hv, _⟩ := h.pts
  exact ⟨a, cap, hv⟩
theorem M.OwnPt.setAt {w : World} {base : Nat} {v : Value} {ps : List M.PartD} (h : M.OwnPt w base v ps) {H : Nat} (hH : ∀ g, v.ownBlock = some g → g ≠ H) (j : Nat) (u : Value) : M.OwnPt (w.setCell ⟨H, j, none⟩ u) base v ps := by
  obtain ⟨hl, h0 | ⟨g, cap, cur, hv, hg, hh, hr⟩⟩ := h
  · exact ⟨hl, .inl h0⟩
  · have hne : H ≠ g := fun e => hH g (by rw [hv]; rfl) e.symm
    refine ⟨hl, .inr ⟨g, cap, cur, hv, hg, ?_, hr⟩⟩
    simp only [World.setCell, Array.getElem?_modify]
    rw [if_neg hne]; exact hh
theorem M.four_nt (w : World) (m : M.PartD) (T : TypeId) : ∀ j u, (M.ptcells m)[j]? = some u → (w.alloc (.cells #[.int .i64 m.q, .int .i64 m.l, .int .i64 m.s, .int .i64 m.c] T)).cell? ((⟨w.heap.size, 0, none⟩ : Addr).add j) = some u := by
  intro j u hu
  rw [Addr.add_lit, Nat.zero_add, World.cell?_alloc_mark]
  simpa [M.ptcells] using hu
theorem M.oneCell4t (m : M.PartD) : ∀ v ∈ M.ptcells m, v.oneCell' = true := by
  intro v hv
  simp [M.ptcells] at hv
  rcases hv with rfl | rfl | rfl | rfl <;> rfl
end Go.Proofs.Ytappficbjjkmiaa

/-
  Rows of parts of the call's own, behind changes of an interval of blocks.
-/
namespace Go.Proofs.Ytappficbjjkmiaa
open Go.RowKit

theorem M.OwnPt.mid {lo hi base : Nat} {w w' : World} {v : Value} {ps : List M.PartD} (h : M.OwnPt w base v ps) (hm : M.Mid lo hi w w') (ho : ∀ g, v.ownBlock = some g → g < lo ∨ hi ≤ g) : M.OwnPt w' base v ps := by
  obtain ⟨hl, h0 | ⟨g, cap, cur, hv, hg, hh, hr⟩⟩ := h
  · exact ⟨hl, .inl h0⟩
  · exact ⟨hl, .inr ⟨g, cap, cur, hv, hg, by rw [hm.block g (Array.getElem?_eq_some_iff.1 hh).1 (ho g (by rw [hv]; rfl))]; exact hh, hr⟩⟩
end Go.Proofs.Ytappficbjjkmiaa
