/-
  Sorting rows of files by their paths.
-/
import Derived.Test.YtbmbcfnlpbbapagDoorMapMath
import Derived.Test.YtbmbcfnlpbbapagDoorOwnMath
import Derived.WalkSpells
import Derived.Shelf.SlSortCmp.WholeK
namespace Go.Proofs.YtbmbcfnlpbbapagDoor
open Go.RowKit

def M.cf (x y : M.FileD) : Int := Lib.compareBytes x.path.data.toList y.path.data.toList
theorem M.compare_lt : ∀ a b : List UInt8, Lib.compareBytes a b < 0 ↔ a < b
  | [], [] => by simp [Lib.compareBytes]
  | [], _ :: _ => by simp [Lib.compareBytes]
  | _ :: _, [] => by simp [Lib.compareBytes]
  | x :: a, y :: b => by
    rw [Lib.compareBytes, List.cons_lt_cons_iff]
    by_cases h1 : x < y
    · simp [h1]
    · by_cases h2 : y < x
      · rw [if_neg h1, if_pos h2]
        have : ¬ x = y := fun e => by subst e; exact h1 h2
        simp [h1, this]
      · rw [if_neg h1, if_neg h2, M.compare_lt a b]
        have : x = y := UInt8.le_antisymm (UInt8.not_lt.1 h2) (UInt8.not_lt.1 h1)
        simp [this]
theorem M.ltOf_eq (x y : M.FileD) : ltOf M.cf x y = decide (x.path.data.toList < y.path.data.toList) := by
  unfold ltOf M.cf
  exact decide_eq_decide.2 (M.compare_lt _ _)
theorem M.swo : Sort.SWO (ltOf M.cf) where
  irrefl x := by rw [M.ltOf_eq]; exact decide_eq_false (M.ltB_irrefl _)
  trans x y z h1 h2 := by
    rw [M.ltOf_eq] at *
    have h1' : x.path.data.toList < y.path.data.toList := of_decide_eq_true h1
    have h2' : y.path.data.toList < z.path.data.toList := of_decide_eq_true h2
    exact decide_eq_true (List.lt_trans h1' h2')
  ntrans x y z h1 h2 := by
    rw [M.ltOf_eq] at *
    have h1' : ¬ x.path.data.toList < y.path.data.toList := of_decide_eq_false h1
    have h2' : ¬ y.path.data.toList < z.path.data.toList := of_decide_eq_false h2
    refine decide_eq_false (fun h => ?_)
    rcases M.ltB_tri x.path y.path with h3 | h3 | h3
    · exact h1' h3
    · rw [← h3] at h2'; exact h2' h
    · exact h2' (M.ltB_trans h3 h)

/-- Rising by paths. -/
def M.Rising (gs : List M.FileD) : Prop := gs.Pairwise fun f g => M.ltB f.path g.path
theorem M.rising_of_sorted [Inhabited M.FileD] {d d' : Array M.FileD} (hp : Sort.PermIn 0 d.size d d') (hs : Sort.SortedIn (ltOf M.cf) 0 d.size d') (hd : d.toList.Pairwise fun f g => f.path ≠ g.path) : M.Rising d'.toList ∧ d'.toList.Perm d.toList := by
  obtain ⟨hsz, _, hperm⟩ := hp
  have e1 : d'.extract 0 d.size = d' := by rw [← hsz]; simp
  have e2 : d.extract 0 d.size = d := by simp
  rw [e1, e2] at hperm
  refine ⟨?_, hperm⟩
  have hd' : d'.toList.Pairwise fun f g => f.path ≠ g.path := (List.Perm.pairwise_iff (fun h => Ne.symm h) hperm).2 hd
  rw [M.Rising, List.pairwise_iff_getElem]
  intro i j hi hj hij
  have hne := List.pairwise_iff_getElem.1 hd' i j hi hj hij
  have hi' : i < d'.size := by simpa using hi
  have hj' : j < d'.size := by simpa using hj
  have h := hs i j (Nat.zero_le _) hij (by omega)
  rw [getElem!_pos d' j hj', getElem!_pos d' i hi', M.ltOf_eq] at h
  have h' : ¬ d'[j].path.data.toList < d'[i].path.data.toList := of_decide_eq_false h
  simp only [Array.getElem_toList] at hne ⊢
  rcases M.ltB_tri d'[i].path d'[j].path with h3 | h3 | h3
  · exact h3
  · exact absurd h3 hne
  · exact absurd h3 h'
end Go.Proofs.YtbmbcfnlpbbapagDoor
