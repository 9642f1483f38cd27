/-
  Rows of marks that a call owns.
-/
import Derived.Test.YtpokcbcffijheabTowMath
import Derived.Test.YtpokcbcffijheabInfoMk
import Derived.WalkLawsBesides
import Derived.Deep.RegionWith
import Derived.WalkKit
import Derived.WalkSpells
namespace Go.Proofs.Ytpokcbcffijheab
open Go.RowKit

def M.mcells (m : M.MkD) : List Value := [.int .i64 m.id, .int .i64 m.level, .int .i64 m.base]
def M.cellsM (ms : List M.MkD) : List Value := ms.flatMap M.mcells
theorem M.cellsM_app (ms ns : List M.MkD) : M.cellsM (ms ++ ns) = M.cellsM ms ++ M.cellsM ns := by simp [M.cellsM]
theorem M.cellsM_len (ms : List M.MkD) : (M.cellsM ms).length = ms.length * 3 := by
  induction ms with
  | nil => rfl
  | cons f gs ih => simp only [M.cellsM, List.flatMap_cons, List.length_append, List.length_cons] at ih ⊢; rw [ih]; simp [M.mcells]; omega
theorem M.cellsM_get : ∀ (ms : List M.MkD) (i : Nat) (h : i < ms.length) (c : Nat), c < 3 → (M.cellsM ms)[i * 3 + c]? = (M.mcells ms[i])[c]?
  | [], i, h, _, _ => absurd h (Nat.not_lt_zero _)
  | f :: gs, 0, _, c, hc => by
    simp only [M.cellsM, List.flatMap_cons, Nat.zero_mul, Nat.zero_add, List.getElem_cons_zero]
    rw [List.getElem?_append_left (by simp [M.mcells]; omega)]
  | f :: gs, i + 1, h, c, hc => by
    simp only [M.cellsM, List.flatMap_cons, List.getElem_cons_succ]
    rw [List.getElem?_append_right (by simp [M.mcells]; omega), show (i + 1) * 3 + c - (M.mcells f).length = i * 3 + c by simp [M.mcells]; omega]
    exact M.cellsM_get gs i (by simpa using h) c hc
theorem M.oneCellM (ms : List M.MkD) : ∀ v ∈ M.cellsM ms, v.oneCell' = true := by
  intro v hv
  obtain ⟨m, -, hm⟩ := List.mem_flatMap.1 hv
  simp [M.mcells] at hm
  rcases hm with rfl | rfl | rfl <;> rfl

/-- A slice of marks in a row that is the call's own. -/
def M.OwnK (w : World) (base : Nat) (v : Value) (ms : List M.MkD) : Prop := w.ownsRow base 78 3 v ms.length (M.cellsM ms)
theorem M.OwnK.mks {w : World} {base : Nat} {v : Value} {ms : List M.MkD} (h : M.OwnK w base v ms) : ∃ a cap, v = .slice a ms.length cap ∧ M.Mks w a ms.length cap ms := by
  obtain ⟨hl, ⟨rfl, h0⟩ | ⟨g, cp, cur, hv, hb, hh, hn, hc, hz, ht⟩⟩ := h
  · rw [h0]
    exact ⟨none, 0, rfl, by rw [h0], Nat.le_refl _, Nat.zero_le _, fun h => absurd h (Nat.lt_irrefl _)⟩
  · refine ⟨_, cp, hv, rfl, hn, hc, fun _ => ⟨g, 0, rfl, fun i hi => ?_⟩⟩
    have cell : ∀ c, c < 3 → w.cell? ⟨g, 0 + i * 3 + c, none⟩ = (M.mcells ms[i])[c]? := fun c hcc => by
      rw [← M.cellsM_get ms i hi c hcc, ← ht, List.getElem?_take_of_lt (by omega)]
      simp [World.cell?, hh]
    exact ⟨cell 0 (by omega), cell 1 (by omega), cell 2 (by omega)⟩
theorem M.OwnK.below {w W : World} {base : Nat} {v : Value} {ms : List M.MkD} (h : M.OwnK w base v ms) (hb : Below w.heap.size w W) : M.OwnK W base v ms := by
  obtain ⟨hl, h0 | ⟨g, cap, cur, hv, hg, hh, hn, hc, hz, ht⟩⟩ := h
  · exact ⟨hl, .inl h0⟩
  · exact ⟨hl, .inr ⟨g, cap, cur, hv, hg, by rw [hb.block g (Array.getElem?_eq_some_iff.1 hh).1]; exact hh, hn, hc, hz, ht⟩⟩
theorem M.OwnK.grown {W W' : World} {base : Nat} {v : Value} {ms : List M.MkD} {row : Option Nat} (h : M.OwnK W base v ms) (hg : W.grownBy W' row) (hne : ∀ j, v.ownBlock = some j → some j ≠ row) : M.OwnK W' base v ms := by
  obtain ⟨hl, h0 | ⟨g, cap, cur, hv, hb, hh, hr⟩⟩ := h
  · exact ⟨hl, .inl h0⟩
  · exact ⟨hl, .inr ⟨g, cap, cur, hv, hb, by rw [hg.block g (Array.getElem?_eq_some_iff.1 hh).1 (hne g (by rw [hv]; rfl))]; exact hh, hr⟩⟩
theorem M.OwnK.down {w : World} {b b' : Nat} {v : Value} {ms : List M.MkD} (h : M.OwnK w b v ms) (hb : b' ≤ b) : M.OwnK w b' v ms := by
  obtain ⟨hl, h0 | ⟨g, cap, cur, hv, hg, hr⟩⟩ := h
  · exact ⟨hl, .inl h0⟩
  · exact ⟨hl, .inr ⟨g, cap, cur, hv, Nat.le_trans hb hg, hr⟩⟩
theorem M.OwnK.empty (w : World) (W : World) (hb : w.heap.size ≤ W.heap.size) : M.OwnK (W.alloc (.cells #[] 78)) w.heap.size (.slice (some ⟨W.heap.size, 0, none⟩) 0 0) [] :=
  ⟨rfl, .inr ⟨W.heap.size, 0, #[], rfl, hb, heap_alloc_new _ _, Nat.le_refl _, Nat.zero_le _, rfl, rfl⟩⟩
theorem M.OwnK.more {w : World} {base : Nat} {v : Value} {ms : List M.MkD} {m : M.MkD} (h : w.ownsRow base 78 3 v (ms.length + 1) (M.cellsM ms ++ M.mcells m)) : M.OwnK w base v (ms ++ [m]) := by
  unfold M.OwnK
  rw [M.cellsM_app, List.length_append, show M.cellsM [m] = M.mcells m by simp [M.cellsM]]
  exact h
/-- Its first marks. -/
theorem M.OwnK.pre {w : World} {base : Nat} {a : Option Addr} {n cap : Nat} {ms : List M.MkD} (h : M.OwnK w base (.slice a n cap) ms) (k : Nat) (hk : k < n) : w.ownsRow base 78 3 (.slice a k cap) k (M.cellsM (ms.take k)) := by
  obtain ⟨hl, ⟨h0, h1⟩ | ⟨g, cp, cur, hv, hb, hh, hn, hc, hz, ht⟩⟩ := h
  · cases h0; omega
  · cases hv
    have hkl : (ms.take k).length = k := by rw [List.length_take]; omega
    refine ⟨by rw [M.cellsM_len, hkl], .inr ⟨g, _, cur, rfl, hb, hh, by omega, hc, hz, ?_⟩⟩
    have e : M.cellsM ms = M.cellsM (ms.take k) ++ M.cellsM (ms.drop k) := by rw [← M.cellsM_app, List.take_append_drop]
    have := congrArg (List.take (k * 3)) ht
    rw [List.take_take, Nat.min_eq_left (by omega), e, List.take_append_of_le_length (by rw [M.cellsM_len, hkl]; exact Nat.le_refl _)] at this
    rw [this]
    exact List.take_of_length_le (by rw [M.cellsM_len, hkl]; exact Nat.le_refl _)
/-- One cell of it is written. -/
theorem M.OwnK.set {w : World} {base : Nat} {a : Option Addr} {n cap : Nat} {ms : List M.MkD} (h : M.OwnK w base (.slice a n cap) ms) (k c : Nat) (hk : k < n) (hc : c < 3) (z : Int) : ∃ g, a = some ⟨g, 0, none⟩ ∧ base ≤ g ∧ g < w.heap.size ∧ (∀ j, w.frozen? ⟨g, j, none⟩ = false) ∧ ∃ ns : List M.MkD, ns.length = ms.length ∧ M.OwnK (w.setCell ⟨g, k * 3 + c, none⟩ (.int .i64 z)) base (.slice a n cap) ns := by
  obtain ⟨hl, ⟨h0, h1⟩ | ⟨g, cp, cur, hv, hb, hh, hn, hcp, hz, ht⟩⟩ := h
  · cases h0; omega
  · have hvl : n = ms.length := by cases hv; rfl
    have hva : a = some ⟨g, 0, none⟩ := by cases hv; rfl
    have hvc : cap = cp := by cases hv; rfl
    have hkm : k < ms.length := by omega
    let m := ms[k]
    let nm : M.MkD := if c = 0 then ⟨z, m.level, m.base⟩ else if c = 1 then ⟨m.id, z, m.base⟩ else ⟨m.id, m.level, z⟩
    refine ⟨g, hva, hb, (Array.getElem?_eq_some_iff.1 hh).1, fun j => by simp [World.frozen?, hh], ms.set k nm, by simp, ?_⟩
    have hb2 : (w.setCell ⟨g, k * 3 + c, none⟩ (.int .i64 z)).heap[g]? = some (.cells (cur.setIfInBounds (k * 3 + c) (.int .i64 z)) 78 (0, 0)) := by
      simp only [World.setCell, Array.getElem?_modify, hh]
      simp
    refine ⟨by rw [M.cellsM_len], .inr ⟨g, cp, _, by rw [hv, List.length_set], hb, hb2, by rw [List.length_set]; exact hn, hcp, by rw [Array.size_setIfInBounds]; exact hz, ?_⟩⟩
    rw [List.length_set, Array.toList_setIfInBounds, List.take_set, ht]
    apply List.ext_getElem?
    intro t
    by_cases htl : t < ms.length * 3
    · have hq : t / 3 < ms.length := by omega
      have e1 := M.cellsM_get ms (t / 3) hq (t % 3) (by omega)
      have e2 := M.cellsM_get (ms.set k nm) (t / 3) (by rw [List.length_set]; exact hq) (t % 3) (by omega)
      rw [show t / 3 * 3 + t % 3 = t by omega] at e1 e2
      rw [e2]
      by_cases e : t = k * 3 + c
      · subst e
        rw [List.getElem?_set_self (by rw [M.cellsM_len]; omega)]
        have q1 : (k * 3 + c) / 3 = k := by omega
        have q2 : (k * 3 + c) % 3 = c := by omega
        simp only [q1, q2, List.getElem_set_self]
        rcases (show c = 0 ∨ c = 1 ∨ c = 2 by omega) with rfl | rfl | rfl <;> rfl
      · rw [List.getElem?_set_ne (by omega), e1]
        by_cases eq : t / 3 = k
        · simp only [eq, List.getElem_set_self]
          have hne : t % 3 ≠ c := by omega
          have h3 : t % 3 = 0 ∨ t % 3 = 1 ∨ t % 3 = 2 := by omega
          rcases h3 with h | h | h <;> rcases (show c = 0 ∨ c = 1 ∨ c = 2 by omega) with rfl | rfl | rfl <;> rw [h] <;> first | (exact absurd h hne) | rfl
        · rw [List.getElem_set_ne (by omega)]
    · rw [List.getElem?_eq_none (by rw [List.length_set, M.cellsM_len]; omega), List.getElem?_eq_none (by rw [M.cellsM_len, List.length_set]; omega)]
theorem M.MksAt.src {w : World} {b off : Nat} {ms : List M.MkD} (h : M.MksAt w b off ms) : ∀ j u, (M.cellsM ms)[j]? = some u → w.cell? ((⟨b, off, none⟩ : Addr).add j) = some u := by
  intro j u hj
  have hlt : j < ms.length * 3 := by
    have := (List.getElem?_eq_some_iff.1 hj).1
    rwa [M.cellsM_len] at this
  have hq : j / 3 < ms.length := by omega
  have e := M.cellsM_get ms (j / 3) hq (j % 3) (by omega)
  rw [show j / 3 * 3 + j % 3 = j by omega] at e
  rw [e] at hj
  rw [Addr.add_lit]
  obtain ⟨c0, c1, c2⟩ := h (j / 3) hq
  have h3 : j % 3 = 0 ∨ j % 3 = 1 ∨ j % 3 = 2 := by omega
  rcases h3 with h | h | h
  · rw [h] at hj; rw [show off + j = off + j / 3 * 3 by omega, c0]; simpa [M.mcells] using hj
  · rw [h] at hj; rw [show off + j = off + j / 3 * 3 + 1 by omega, c1]; simpa [M.mcells] using hj
  · rw [h] at hj; rw [show off + j = off + j / 3 * 3 + 2 by omega, c2]; simpa [M.mcells] using hj
end Go.Proofs.Ytpokcbcffijheab
