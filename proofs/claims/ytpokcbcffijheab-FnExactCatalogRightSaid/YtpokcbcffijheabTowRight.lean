/-
  Right marks: what is found by an Id, and what is right among those ahead.
-/
import Derived.Test.YtpokcbcffijheabTowMath
namespace Go.Proofs.Ytpokcbcffijheab

def M.mz : M.MkD := ⟨0, 0, 0⟩
/-- The Ids rise. -/
def M.Asc (ms : List M.MkD) : Prop := ∀ i (h : i + 1 < ms.length), ms[i].id < ms[i + 1].id
theorem M.Asc.lt {ms : List M.MkD} (h : M.Asc ms) : ∀ (d i : Nat) (hj : i + d + 1 < ms.length), ms[i].id < ms[i + d + 1].id
  | 0, i, hj => h i hj
  | d + 1, i, hj => Int.lt_trans (M.Asc.lt h d i (by omega)) (h (i + d + 1) (by omega))
theorem M.Asc.at {ms : List M.MkD} (h : M.Asc ms) {i j : Nat} (hij : i < j) (hj : j < ms.length) : ms[i].id < ms[j].id := by
  obtain ⟨d, rfl⟩ : ∃ d, j = i + d + 1 := ⟨j - i - 1, by omega⟩
  exact h.lt d i hj
theorem M.Asc.le {ms : List M.MkD} (h : M.Asc ms) {i j : Nat} (hij : i ≤ j) (hj : j < ms.length) : ms[i].id ≤ ms[j].id := by
  rcases Nat.lt_or_eq_of_le hij with h1 | rfl
  · exact Int.le_of_lt (h.at h1 hj)
  · exact Int.le_refl _
theorem M.Asc.take {ms : List M.MkD} (h : M.Asc ms) (k : Nat) : M.Asc (ms.take k) := by
  intro i hi
  rw [List.length_take] at hi
  rw [List.getElem_take, List.getElem_take]
  exact h i (by omega)
/-- The mark of an Id. -/
def M.found (ms : List M.MkD) (id : Int) : Option M.MkD := ms.find? fun m => m.id == id
theorem M.found_at {ms : List M.MkD} {id : Int} {k : Nat} (hk : k < ms.length) (e : ms[k].id = id) (lo : ∀ t (h : t < ms.length), t < k → ms[t].id < id) : M.found ms id = some ms[k] := by
  unfold M.found
  rw [List.find?_eq_some_iff_getElem]
  refine ⟨by simpa using e, k, hk, rfl, fun j hj => ?_⟩
  have := lo j (by omega) hj
  simp; omega
theorem M.found_no {ms : List M.MkD} {id : Int} (h : ∀ t (h : t < ms.length), ms[t].id ≠ id) : M.found ms id = none := by
  unfold M.found
  rw [List.find?_eq_none]
  intro m hm
  obtain ⟨i, hi, rfl⟩ := List.mem_iff_getElem.1 hm
  simpa using h i hi
theorem M.found_id {ms : List M.MkD} {id : Int} {m : M.MkD} (h : M.found ms id = some m) : m.id = id ∧ m ∈ ms := by
  unfold M.found at h
  exact ⟨by simpa using List.find?_some h, List.mem_of_find?_eq_some h⟩
theorem M.found_split {ms : List M.MkD} {id : Int} {k : Nat} (lo : ∀ t (h : t < ms.length), t < k → ms[t].id < id) (hi : ∀ t (h : t < ms.length), k ≤ t → id ≤ ms[t].id) (hA : M.Asc ms) (hn : ¬ ∃ h : k < ms.length, ms[k].id = id) : M.found ms id = none := by
  refine M.found_no fun t ht e => ?_
  by_cases h1 : t < k
  · have := lo t ht h1; omega
  · by_cases h2 : t = k
    · subst h2; exact hn ⟨ht, e⟩
    · have := hA.at (i := k) (j := t) (by omega) ht
      have := hi k (by omega) (Nat.le_refl _)
      omega
/-- Which place the first mark of an Id has (-1: none). -/
def M.idx (ms : List M.MkD) (id : Int) : Int := match ms.findIdx? fun m => m.id == id with
  | some k => k
  | none => -1
theorem M.idx_at {ms : List M.MkD} {id : Int} {k : Nat} (hk : k < ms.length) (e : ms[k].id = id) (lo : ∀ t (h : t < ms.length), t < k → ms[t].id ≠ id) : M.idx ms id = k := by
  unfold M.idx
  have : ms.findIdx? (fun m => m.id == id) = some k := by
    rw [List.findIdx?_eq_some_iff_getElem]
    exact ⟨hk, by simpa using e, fun j hj => by simpa using lo j (by omega) hj⟩
  rw [this]
theorem M.idx_no {ms : List M.MkD} {id : Int} (h : ∀ t (h : t < ms.length), ms[t].id ≠ id) : M.idx ms id = -1 := by
  unfold M.idx
  have : ms.findIdx? (fun m => m.id == id) = none := by
    rw [List.findIdx?_eq_none_iff]
    intro m hm
    obtain ⟨i, hi, rfl⟩ := List.mem_iff_getElem.1 hm
    simpa using h i hi
  rw [this]
/-- A place that is found, or none, and the mark there. -/
theorem M.idx_cases (ms : List M.MkD) (id : Int) : (M.idx ms id = -1 ∧ M.found ms id = none) ∨ ∃ (k : Nat) (h : k < ms.length), M.idx ms id = k ∧ M.found ms id = some ms[k] := by
  cases hf : ms.findIdx? (fun m => m.id == id) with
  | none =>
    rw [List.findIdx?_eq_none_iff] at hf
    left
    have hx : ∀ t (h : t < ms.length), ms[t].id ≠ id := fun t ht => by simpa using hf ms[t] (List.getElem_mem ht)
    exact ⟨M.idx_no hx, M.found_no hx⟩
  | some k =>
    rw [List.findIdx?_eq_some_iff_getElem] at hf
    obtain ⟨hk, e, lo⟩ := hf
    right
    refine ⟨k, hk, M.idx_at hk (by simpa using e) (fun t ht h => by simpa using lo t h), ?_⟩
    unfold M.found
    rw [List.find?_eq_some_iff_getElem]
    exact ⟨by simpa using e, k, hk, rfl, fun j hj => by simpa using lo j hj⟩
def M.isB (n lo hi : Int) : Bool := decide (lo ≤ n ∧ n ≤ hi)
/-- Is the base there, and of a lower level? -/
def M.baseR (pre : List M.MkD) (m : M.MkD) : Bool := match M.found pre m.base with
  | some b => decide (b.level < m.level)
  | none => false
/-- A mark that is right among those ahead of it. -/
def M.mkR (pre : List M.MkD) (m : M.MkD) : Bool := decide (1 ≤ m.id ∧ m.id ≤ 1000000) && (decide (0 ≤ m.level ∧ m.level ≤ 5) && (if m.level = 0 then decide (m.base = 0) else M.baseR pre m))
/-- The first k marks are right, and their Ids rise. -/
def M.MksR (ms : List M.MkD) (k : Nat) : Prop := ∀ i (_ : i < k) (h : i < ms.length), M.mkR (ms.take i) ms[i] = true ∧ ∀ (_ : 0 < i), ms[i - 1].id < ms[i].id
theorem M.MksR.zero (ms : List M.MkD) : M.MksR ms 0 := fun _ h => absurd h (Nat.not_lt_zero _)
theorem M.MksR.next {ms : List M.MkD} {k : Nat} {m : M.MkD} (h : M.MksR ms k) (hm : ms[k]? = some m) (hr : M.mkR (ms.take k) m = true) (hp : ∀ p, 0 < k → ms[k - 1]? = some p → p.id < m.id) : M.MksR ms (k + 1) := by
  intro i hi hl
  obtain ⟨hk, rfl⟩ := List.getElem?_eq_some_iff.1 hm
  by_cases e : i = k
  · subst e
    exact ⟨hr, fun h0 => hp _ h0 (List.getElem?_eq_getElem (by omega))⟩
  · exact h i (by omega) hl
theorem M.MksR.asc {ms : List M.MkD} {k : Nat} (h : M.MksR ms k) : M.Asc (ms.take k) := by
  intro i hi
  rw [List.length_take] at hi
  rw [List.getElem_take, List.getElem_take]
  exact (h (i + 1) (by omega) (by omega)).2 (by omega)
theorem M.MksR.mk {ms : List M.MkD} {k : Nat} {m : M.MkD} (h : M.MksR ms ms.length) (hm : ms[k]? = some m) : M.mkR (ms.take k) m = true := by
  obtain ⟨hk, rfl⟩ := List.getElem?_eq_some_iff.1 hm
  exact (h k hk hk).1
theorem M.MksR.rise {ms : List M.MkD} {k : Nat} {m p : M.MkD} (h : M.MksR ms ms.length) (hm : ms[k + 1]? = some m) (hp : ms[k]? = some p) : p.id < m.id := by
  obtain ⟨hk, rfl⟩ := List.getElem?_eq_some_iff.1 hm
  obtain ⟨hk', rfl⟩ := List.getElem?_eq_some_iff.1 hp
  exact (h (k + 1) hk hk).2 (by omega)
/-- Marks that are right. -/
def M.MarksR (ms : List M.MkD) : Prop := ms.length ≤ 60 ∧ M.MksR ms ms.length
theorem M.MarksR.asc {ms : List M.MkD} (h : M.MarksR ms) : M.Asc ms := by
  have := h.2.asc
  rwa [List.take_of_length_le (Nat.le_refl _)] at this
end Go.Proofs.Ytpokcbcffijheab
