/-
  Right files and right trees, with no word of the program.
-/
import Derived.Test.YtbmbcfnlpbbapagDoorFileMath
import Derived.Test.YtbmbcfnlpbbapagDoorPathMath
import Derived.Lib.LastIndexByte
namespace Go.Proofs.YtbmbcfnlpbbapagDoor.M

/-- One text stands ahead of another. -/
def ltB (a b : ByteArray) : Prop := a.data.toList < b.data.toList
theorem ltB_irrefl (a : ByteArray) : ¬ ltB a a := List.lt_irrefl _
theorem ltB_trans {a b c : ByteArray} (h : ltB a b) (h' : ltB b c) : ltB a c := List.lt_trans h h'
theorem ltB_tri (a b : ByteArray) : ltB a b ∨ a = b ∨ ltB b a := by
  by_cases h1 : ltB a b
  · exact .inl h1
  · by_cases h2 : ltB b a
    · exact .inr (.inr h2)
    · refine .inr (.inl ?_)
      apply ByteArray.ext
      apply Array.toList_inj.1
      exact List.le_antisymm (List.not_lt.1 h2) (List.not_lt.1 h1)

/-- What is ahead of the last stroke of a path. -/
def aboveB (s : ByteArray) : ByteArray := s.extract 0 (Lib.lastIndexByte s 47).toNat

/-- A right file. -/
def fileR (f : FileD) : Bool := pathR f.path && decide (0 ≤ f.mode ∧ f.mode ≤ 4095) && decide (0 ≤ f.time ∧ f.time ≤ 1000000000) && decide (f.data.size ≤ 1200) && (!f.dir || decide (f.data.size = 0))

/-- A right tree. -/
structure TreeR (fs : List FileD) : Prop where
  len : fs.length ≤ 20
  file : ∀ i (h : i < fs.length), fileR fs[i] = true
  rise : ∀ i j (h : i < j) (h' : j < fs.length), ltB fs[i].path fs[j].path
  up : ∀ i (h : i < fs.length), (aboveB fs[i].path).size = 0 ∨ ∃ j, ∃ h' : j < fs.length, fs[j].path = aboveB fs[i].path ∧ fs[j].dir = true

theorem rise_of_adj {fs : List FileD} (h : ∀ i (_ : 0 < i) (h' : i < fs.length), ltB fs[i - 1].path fs[i].path) : ∀ i j (_ : i < j) (h' : j < fs.length), ltB fs[i].path fs[j].path := by
  intro i j hij
  induction j with
  | zero => omega
  | succ j ih =>
    intro h'
    have h1 := h (j + 1) (by omega) h'
    simp only [Nat.add_sub_cancel] at h1
    by_cases e : i = j
    · subst e; exact h1
    · exact ltB_trans (ih (by omega) (by omega)) h1

/-- Where a search for a path among rising files ends. -/
structure Place (fs : List FileD) (p : ByteArray) (k : Nat) : Prop where
  le : k ≤ fs.length
  low : ∀ j (_ : j < k) (h' : j < fs.length), ltB fs[j].path p
  high : ∀ h : k < fs.length, ¬ ltB fs[k].path p
/-- The path is there. -/
def There (fs : List FileD) (p : ByteArray) (k : Nat) : Prop := ∃ h : k < fs.length, fs[k].path = p

theorem Place.eq_of_there {fs : List FileD} {p : ByteArray} {k j : Nat} (hk : Place fs p k) (hr : ∀ i j (_ : i < j) (h' : j < fs.length), ltB fs[i].path fs[j].path) (hj : There fs p j) : k = j := by
  obtain ⟨hj1, hj2⟩ := hj
  rcases Nat.lt_trichotomy k j with h | h | h
  · exact absurd (hj2 ▸ hr k j h hj1) (hk.high (by omega))
  · exact h
  · exact absurd (hj2 ▸ hk.low j h hj1) (ltB_irrefl _)
theorem TreeR.rise' {fs : List FileD} (h : TreeR fs) : ∀ i j (_ : i < j) (h' : j < fs.length), ltB fs[i].path fs[j].path := h.rise

/-- The file of a path, or the zero one. -/
def zeroF : FileD := ⟨ByteArray.empty, false, 0, 0, ByteArray.empty⟩
/-- f is what is found of a path. -/
def Found (fs : List FileD) (p : ByteArray) (f : FileD) : Prop := (∃ k, ∃ h : k < fs.length, fs[k].path = p ∧ fs[k] = f) ∨ (∀ k (h : k < fs.length), fs[k].path ≠ p) ∧ f = zeroF
theorem Found.unique {fs : List FileD} {p : ByteArray} {f g : FileD} (hr : ∀ i j (_ : i < j) (h' : j < fs.length), ltB fs[i].path fs[j].path) (h : Found fs p f) (h' : Found fs p g) : f = g := by
  rcases h with ⟨k, hk, e1, e2⟩ | ⟨hn, rfl⟩
  · rcases h' with ⟨j, hj, e3, e4⟩ | ⟨hn, _⟩
    · rcases Nat.lt_trichotomy k j with h | h | h
      · have := hr k j h hj; rw [e1, e3] at this; exact absurd this (ltB_irrefl _)
      · subst h; rw [← e2, ← e4]
      · have := hr j k h hk; rw [e1, e3] at this; exact absurd this (ltB_irrefl _)
    · exact absurd e1 (hn k hk)
  · rcases h' with ⟨j, hj, e3, e4⟩ | ⟨_, rfl⟩
    · exact absurd e3 (hn j hj)
    · rfl
end Go.Proofs.YtbmbcfnlpbbapagDoor.M
