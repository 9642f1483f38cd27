/-
  What a name is, with no word of the program.
-/
import Derived.WalkKit
namespace Go.Proofs.Ytpokcbcffijheab.M

def letter (c : Int) : Bool := decide (97 ≤ c ∧ c ≤ 122)
def more (c : Int) : Bool := decide (48 ≤ c ∧ c ≤ 57 ∨ c = 95)
def nameB (c : Int) : Bool := letter c || more c
def nameAt (i : Nat) (c : Int) : Bool := letter c || (decide (i ≠ 0) && more c)
/-- A text's byte at a place, as a number. -/
def byteAt (s : ByteArray) (j : Nat) : Int := ((s.data.toList.getD j 0).toNat : Int)
def nameR (s : ByteArray) : Bool := decide (1 ≤ s.size) && decide (s.size ≤ 20) && (List.range s.size).all fun j => nameAt j (byteAt s j)

theorem byteAt_eq (s : ByteArray) (k : Nat) (h : k < s.size) : ((s[k]'h).toNat : Int) = byteAt s k := by
  have h' : k < s.data.toList.length := by rw [Array.length_toList]; exact h
  unfold byteAt
  rw [List.getD_eq_getElem?_getD, List.getElem?_eq_getElem h', Option.getD_some]
  rfl
theorem byteAt_range (s : ByteArray) (k : Nat) : 0 ≤ byteAt s k ∧ byteAt s k ≤ 255 := by
  unfold byteAt
  have := (s.data.toList.getD k 0).toNat_lt
  omega
theorem letter_yes {c : Int} (h1 : 97 ≤ c) (h2 : c ≤ 122) : letter c = true := by unfold letter; simp; omega
theorem letter_no {c : Int} (h : c < 97 ∨ 122 < c) : letter c = false := by unfold letter; simp; omega
theorem more_yes {c : Int} (h : 48 ≤ c ∧ c ≤ 57 ∨ c = 95) : more c = true := by unfold more; simpa using h
theorem more_no {c : Int} (h : ¬ (48 ≤ c ∧ c ≤ 57 ∨ c = 95)) : more c = false := by unfold more; simpa using h
theorem nameR_short {s : ByteArray} (h : s.size < 1) : nameR s = false := by
  unfold nameR; rw [show decide (1 ≤ s.size) = false from decide_eq_false (by omega)]; rfl
theorem nameR_long {s : ByteArray} (h : 20 < s.size) : nameR s = false := by
  unfold nameR; rw [show decide (s.size ≤ 20) = false from decide_eq_false (by omega)]; simp
theorem nameR_bad {s : ByteArray} {j : Nat} (hj : j < s.size) (h : nameAt j (byteAt s j) = false) : nameR s = false := by
  unfold nameR
  rw [show ((List.range s.size).all fun j => nameAt j (byteAt s j)) = false from ?_]
  · simp
  · rw [List.all_eq_false]
    exact ⟨j, List.mem_range.2 hj, by simp [h]⟩
theorem nameR_good {s : ByteArray} (h1 : 1 ≤ s.size) (h2 : s.size ≤ 20) (h : ∀ j, j < s.size → nameAt j (byteAt s j) = true) : nameR s = true := by
  unfold nameR
  rw [show ((List.range s.size).all fun j => nameAt j (byteAt s j)) = true from ?_]
  · rw [decide_eq_true h1, decide_eq_true h2]; rfl
  · rw [List.all_eq_true]
    intro j hj
    exact h j (List.mem_range.1 hj)
theorem okAt_letter {i : Nat} {c : Int} (h : letter c = true) : nameAt i c = true := by unfold nameAt; rw [h]; rfl
theorem okAt_more {i : Nat} {c : Int} (hi : i ≠ 0) (h : more c = true) : nameAt i c = true := by unfold nameAt; rw [h]; simp [hi]
theorem okAt_no {i : Nat} {c : Int} (h1 : letter c = false) (h2 : i = 0 ∨ more c = false) : nameAt i c = false := by
  unfold nameAt; rw [h1]; rcases h2 with h | h
  · simp [h]
  · simp [h]
theorem okAt_nameB {i : Nat} {c : Int} (hi : i ≠ 0) : nameAt i c = nameB c := by unfold nameAt nameB; simp [hi]
/-- What is right up to a place, and at it, is right up to the next. -/
theorem up_succ {p : Nat → Bool} {k : Nat} (h : ∀ j, j < k → p j = true) (hk : p k = true) : ∀ j, j < k + 1 → p j = true := by
  intro j hj
  by_cases e : j = k
  · subst e; exact hk
  · exact h j (by omega)
end Go.Proofs.Ytpokcbcffijheab.M
