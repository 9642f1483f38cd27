/-
  Rows of files that a call owns, and sorting them by their paths.
-/
import Derived.Test.YtdablmomfkpnnagDoorMapMath
import Derived.Test.YtdablmomfkpnnagDoorOpenFiles
import Derived.WalkSpells
import Derived.Shelf.SlSortCmp.WholeK
namespace Go.Proofs.YtdablmomfkpnnagDoor
open Go.RowKit

def M.cellsF (gs : List M.FileD) : List Value := gs.flatMap M.fcells
theorem M.cellsF_snoc (gs : List M.FileD) (f : M.FileD) : M.cellsF gs ++ M.fcells f = M.cellsF (gs ++ [f]) := by simp [M.cellsF]
theorem M.cellsF_len (gs : List M.FileD) : (M.cellsF gs).length = gs.length * 5 := by
  induction gs with
  | nil => rfl
  | cons f gs ih => simp only [M.cellsF, List.flatMap_cons, List.length_append, List.length_cons] at ih ⊢; rw [ih]; simp [M.fcells]; omega
theorem M.cellsF_get : ∀ (gs : List M.FileD) (i : Nat) (h : i < gs.length) (c : Nat), c < 5 → (M.cellsF gs)[i * 5 + c]? = (M.fcells gs[i])[c]?
  | [], i, h, _, _ => absurd h (Nat.not_lt_zero _)
  | f :: gs, 0, _, c, hc => by
    simp only [M.cellsF, List.flatMap_cons, Nat.zero_mul, Nat.zero_add, List.getElem_cons_zero]
    rw [List.getElem?_append_left (by simp [M.fcells]; omega)]
  | f :: gs, i + 1, h, c, hc => by
    simp only [M.cellsF, List.flatMap_cons, List.getElem_cons_succ]
    rw [List.getElem?_append_right (by simp [M.fcells]; omega), show (i + 1) * 5 + c - (M.fcells f).length = i * 5 + c by simp [M.fcells]; omega]
    exact M.cellsF_get gs i (by simpa using h) c hc

/-- A slice of files in a row that is the call's own. -/
def M.Own (w : World) (base : Nat) (T : TypeId) (v : Value) (gs : List M.FileD) : Prop := w.ownsRow base T 5 v gs.length (M.cellsF gs)
theorem M.Own.files {w : World} {base : Nat} {T : TypeId} {v : Value} {gs : List M.FileD} (h : M.Own w base T v gs) : ∃ a cap, v = .slice a gs.length cap ∧ M.Files w a gs.length cap gs := by
  obtain ⟨hl, ⟨rfl, h0⟩ | ⟨g, cp, cur, hv, hb, hh, hn, hc, hz, ht⟩⟩ := h
  · rw [h0]
    exact ⟨none, 0, rfl, by rw [h0], Nat.le_refl _, Nat.zero_le _, fun h => absurd h (Nat.lt_irrefl _)⟩
  · refine ⟨_, cp, hv, rfl, hn, hc, fun _ => ⟨g, 0, rfl, fun i hi => ?_⟩⟩
    have cell : ∀ c, c < 5 → w.cell? ⟨g, 0 + i * 5 + c, none⟩ = (M.fcells gs[i])[c]? := fun c hcc => by
      rw [← M.cellsF_get gs i hi c hcc, ← ht, List.getElem?_take_of_lt (by omega)]
      simp [World.cell?, hh]
    exact ⟨cell 0 (by omega), cell 1 (by omega), cell 2 (by omega), cell 3 (by omega), cell 4 (by omega)⟩

def M.cf (x y : M.FileD) : Int := Lib.compareBytes x.path.data.toList y.path.data.toList
theorem M.compare_lt : ∀ a b : List UInt8, Lib.compareBytes a b < 0 ↔ a < b
  | [], [] => by simp [Lib.compareBytes]
  | [], _ :: _ => by simp [Lib.compareBytes]
  | _ :: _, [] => by simp [Lib.compareBytes]
  | x :: a, y :: b => by
    rw [Lib.compareBytes, List.cons_lt_cons_iff]
    by_cases h1 : x < y
    · simp [h1]
    · by_cases h2 : y < x
      · rw [if_neg h1, if_pos h2]
        have : ¬ x = y := fun e => by subst e; exact h1 h2
        simp [h1, this]
      · rw [if_neg h1, if_neg h2, M.compare_lt a b]
        have : x = y := UInt8.le_antisymm (UInt8.not_lt.1 h2) (UInt8.not_lt.1 h1)
        simp [this]
theorem M.ltOf_eq (x y : M.FileD) : ltOf M.cf x y = decide (x.path.data.toList < y.path.data.toList) := by
  unfold ltOf M.cf
  exact decide_eq_decide.2 (M.compare_lt _ _)
theorem M.swo : Sort.SWO (ltOf M.cf) where
  irrefl x := by rw [M.ltOf_eq]; exact decide_eq_false (M.ltB_irrefl _)
  trans x y z h1 h2 := by
    rw [M.ltOf_eq] at *
    have h1' : x.path.data.toList < y.path.data.toList := of_decide_eq_true h1
    have h2' : y.path.data.toList < z.path.data.toList := of_decide_eq_true h2
    exact decide_eq_true (List.lt_trans h1' h2')
  ntrans x y z h1 h2 := by
    rw [M.ltOf_eq] at *
    have h1' : ¬ x.path.data.toList < y.path.data.toList := of_decide_eq_false h1
    have h2' : ¬ y.path.data.toList < z.path.data.toList := of_decide_eq_false h2
    refine decide_eq_false (fun h => ?_)
    rcases M.ltB_tri x.path y.path with h3 | h3 | h3
    · exact h1' h3
    · rw [← h3] at h2'; exact h2' h
    · exact h2' (M.ltB_trans h3 h)

/-- Rising by paths. -/
def M.Rising (gs : List M.FileD) : Prop := gs.Pairwise fun f g => M.ltB f.path g.path
theorem M.rising_of_sorted [Inhabited M.FileD] {d d' : Array M.FileD} (hp : Sort.PermIn 0 d.size d d') (hs : Sort.SortedIn (ltOf M.cf) 0 d.size d') (hd : d.toList.Pairwise fun f g => f.path ≠ g.path) : M.Rising d'.toList ∧ d'.toList.Perm d.toList := by
  obtain ⟨hsz, _, hperm⟩ := hp
  have e1 : d'.extract 0 d.size = d' := by rw [← hsz]; simp
  have e2 : d.extract 0 d.size = d := by simp
  rw [e1, e2] at hperm
  refine ⟨?_, hperm⟩
  have hd' : d'.toList.Pairwise fun f g => f.path ≠ g.path := (List.Perm.pairwise_iff (fun h => Ne.symm h) hperm).2 hd
  rw [M.Rising, List.pairwise_iff_getElem]
  intro i j hi hj hij
  have hne := List.pairwise_iff_getElem.1 hd' i j hi hj hij
  have hi' : i < d'.size := by simpa using hi
  have hj' : j < d'.size := by simpa using hj
  have h := hs i j (Nat.zero_le _) hij (by omega)
  rw [getElem!_pos d' j hj', getElem!_pos d' i hi', M.ltOf_eq] at h
  have h' : ¬ d'[j].path.data.toList < d'[i].path.data.toList := of_decide_eq_false h
  simp only [Array.getElem_toList] at hne ⊢
  rcases M.ltB_tri d'[i].path d'[j].path with h3 | h3 | h3
  · exact h3
  · exact absurd h3 hne
  · exact absurd h3 h'
end Go.Proofs.YtdablmomfkpnnagDoor
