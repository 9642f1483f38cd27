/-
  Rows of files that a call owns.
-/
import Derived.Test.YtbmbcfnlpbbapagDoorOpenFiles
import Derived.WalkKit
import Derived.WalkSpells
namespace Go.Proofs.YtbmbcfnlpbbapagDoor
open Go.RowKit

def M.cellsF (gs : List M.FileD) : List Value := gs.flatMap M.fcells
theorem M.cellsF_snoc (gs : List M.FileD) (f : M.FileD) : M.cellsF gs ++ M.fcells f = M.cellsF (gs ++ [f]) := by simp [M.cellsF]
theorem M.cellsF_len (gs : List M.FileD) : (M.cellsF gs).length = gs.length * 5 := by
  induction gs with
  | nil => rfl
  | cons f gs ih => simp only [M.cellsF, List.flatMap_cons, List.length_append, List.length_cons] at ih ⊢; rw [ih]; simp [M.fcells]; omega
theorem M.cellsF_get : ∀ (gs : List M.FileD) (i : Nat) (h : i < gs.length) (c : Nat), c < 5 → (M.cellsF gs)[i * 5 + c]? = (M.fcells gs[i])[c]?
  | [], i, h, _, _ => absurd h (Nat.not_lt_zero _)
  | f :: gs, 0, _, c, hc => by
    simp only [M.cellsF, List.flatMap_cons, Nat.zero_mul, Nat.zero_add, List.getElem_cons_zero]
    rw [List.getElem?_append_left (by simp [M.fcells]; omega)]
  | f :: gs, i + 1, h, c, hc => by
    simp only [M.cellsF, List.flatMap_cons, List.getElem_cons_succ]
    rw [List.getElem?_append_right (by simp [M.fcells]; omega), show (i + 1) * 5 + c - (M.fcells f).length = i * 5 + c by simp [M.fcells]; omega]
    exact M.cellsF_get gs i (by simpa using h) c hc

/-- A slice of files in a row that is the call's own. -/
def M.Own (w : World) (base : Nat) (T : TypeId) (v : Value) (gs : List M.FileD) : Prop := w.ownsRow base T 5 v gs.length (M.cellsF gs)
theorem M.Own.files {w : World} {base : Nat} {T : TypeId} {v : Value} {gs : List M.FileD} (h : M.Own w base T v gs) : ∃ a cap, v = .slice a gs.length cap ∧ M.Files w a gs.length cap gs := by
  obtain ⟨hl, ⟨rfl, h0⟩ | ⟨g, cp, cur, hv, hb, hh, hn, hc, hz, ht⟩⟩ := h
  · rw [h0]
    exact ⟨none, 0, rfl, by rw [h0], Nat.le_refl _, Nat.zero_le _, fun h => absurd h (Nat.lt_irrefl _)⟩
  · refine ⟨_, cp, hv, rfl, hn, hc, fun _ => ⟨g, 0, rfl, fun i hi => ?_⟩⟩
    have cell : ∀ c, c < 5 → w.cell? ⟨g, 0 + i * 5 + c, none⟩ = (M.fcells gs[i])[c]? := fun c hcc => by
      rw [← M.cellsF_get gs i hi c hcc, ← ht, List.getElem?_take_of_lt (by omega)]
      simp [World.cell?, hh]
    exact ⟨cell 0 (by omega), cell 1 (by omega), cell 2 (by omega), cell 3 (by omega), cell 4 (by omega)⟩
theorem M.FilesAt.cells {w : World} {b off : Nat} {fs : List M.FileD} (h : M.FilesAt w b off fs) : ∀ j u, (M.cellsF fs)[j]? = some u → w.cell? ((⟨b, off, none⟩ : Addr).add j) = some u := by
  intro j u hj
  have hlt : j < fs.length * 5 := by
    have := (List.getElem?_eq_some_iff.1 hj).1
    rwa [M.cellsF_len] at this
  have hq : j / 5 < fs.length := by omega
  have e := M.cellsF_get fs (j / 5) hq (j % 5) (by omega)
  rw [show j / 5 * 5 + j % 5 = j by omega] at e
  rw [e] at hj
  have ad : (⟨b, off, none⟩ : Addr).add j = ⟨b, off + j, none⟩ := by
    unfold Addr.add
    split
    · next h => rw [h]; rfl
    · rfl
  rw [ad]
  obtain ⟨c0, c1, c2, c3, c4⟩ := h (j / 5) hq
  have h5 : j % 5 = 0 ∨ j % 5 = 1 ∨ j % 5 = 2 ∨ j % 5 = 3 ∨ j % 5 = 4 := by omega
  rcases h5 with h | h | h | h | h
  · rw [h] at hj; rw [show off + j = off + j / 5 * 5 by omega, c0]; simpa [M.fcells] using hj
  · rw [h] at hj; rw [show off + j = off + j / 5 * 5 + 1 by omega, c1]; simpa [M.fcells] using hj
  · rw [h] at hj; rw [show off + j = off + j / 5 * 5 + 2 by omega, c2]; simpa [M.fcells] using hj
  · rw [h] at hj; rw [show off + j = off + j / 5 * 5 + 3 by omega, c3]; simpa [M.fcells] using hj
  · rw [h] at hj; rw [show off + j = off + j / 5 * 5 + 4 by omega, c4]; simpa [M.fcells] using hj
end Go.Proofs.YtbmbcfnlpbbapagDoor
