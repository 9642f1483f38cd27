/-
  Numbers in digits to the base of eight, and the sum of a header, with no word of the program.
-/
import Derived.WalkKit
import Derived.Lib.Strings
namespace Go.Proofs.Ytpokcbcffijheab.M

/-- The last j digits of n to the base of eight, the highest first. -/
def octT : Nat → Nat → List UInt8
  | 0, _ => []
  | j + 1, n => UInt8.ofNat (48 + n / 8 ^ j % 8) :: octT j n
theorem octT_len (j n : Nat) : (octT j n).length = j := by
  induction j with
  | zero => rfl
  | succ j ih => simp [octT, ih]
/-- n in d digits; the empty text, if it has more. -/
def octB (n d : Nat) : ByteArray := if n / 8 ^ d = 0 then ⟨(octT d n).toArray⟩ else ⟨#[]⟩
/-- What Octal tells. -/
def octal (n d : Int) : ByteArray := if 0 ≤ n ∧ 1 ≤ d ∧ d ≤ 20 then octB n.toNat d.toNat else ⟨#[]⟩
theorem octal_no {n d : Int} (h : n < 0 ∨ d < 1 ∨ 20 < d) : octal n d = ⟨#[]⟩ := by unfold octal; rw [if_neg (by omega)]
theorem octal_yes {n d : Nat} (h1 : 1 ≤ d) (h2 : d ≤ 20) : octal n d = octB n d := by unfold octal; rw [if_pos (by omega)]; rfl

def isOct (c : UInt8) : Bool := decide (48 ≤ c.toNat) && decide (c.toNat ≤ 55)
def octV (l : List UInt8) : Nat := l.foldl (fun n c => 8 * n + (c.toNat - 48)) 0
theorem octV_snoc (l : List UInt8) (c : UInt8) : octV (l ++ [c]) = 8 * octV l + (c.toNat - 48) := by simp [octV, List.foldl_append]
theorem octV_lt : ∀ (l : List UInt8), (∀ c ∈ l, isOct c = true) → octV l < 8 ^ l.length := by
  intro l
  have key : ∀ (l : List UInt8) (a k : Nat), a < 8 ^ k → (∀ c ∈ l, isOct c = true) → l.foldl (fun n c => 8 * n + (c.toNat - 48)) a < 8 ^ (k + l.length) := by
    intro l
    induction l with
    | nil => intro a k h _; simpa using h
    | cons c l ih =>
      intro a k h hc
      have h1 := hc c (by simp)
      simp only [isOct, Bool.and_eq_true, decide_eq_true_eq] at h1
      have h2 : 8 * a + (c.toNat - 48) < 8 ^ (k + 1) := by rw [Nat.pow_succ]; omega
      have := ih _ (k + 1) h2 (fun c' hc' => hc c' (by simp [hc']))
      simpa [Nat.add_assoc, Nat.add_comm 1] using this
  have := key l 0 0 (by simp)
  simpa [octV] using this
/-- What OctalRead tells. -/
def octR (s : ByteArray) : Int := if 1 ≤ s.size ∧ s.size ≤ 20 ∧ s.data.toList.all isOct = true then (octV s.data.toList : Int) else -1
theorem octR_size {s : ByteArray} (h : s.size < 1 ∨ 20 < s.size) : octR s = -1 := by unfold octR; rw [if_neg (by omega)]
theorem octR_bad {s : ByteArray} {c : UInt8} (hc : c ∈ s.data.toList) (h : isOct c = false) : octR s = -1 := by
  unfold octR
  rw [if_neg (fun hh => by have := List.all_eq_true.1 hh.2.2 c hc; rw [h] at this; cases this)]
theorem octR_good {s : ByteArray} (h1 : 1 ≤ s.size) (h2 : s.size ≤ 20) (h : ∀ c ∈ s.data.toList, isOct c = true) : octR s = (octV s.data.toList : Int) := by
  unfold octR; rw [if_pos ⟨h1, h2, List.all_eq_true.2 h⟩]
theorem isOct_lo {c : UInt8} (h : (c.toNat : Int) < 48) : isOct c = false := by unfold isOct; rw [decide_eq_false (by omega)]; rfl
theorem isOct_hi {c : UInt8} (h : 55 < (c.toNat : Int)) : isOct c = false := by unfold isOct; rw [decide_eq_false (show ¬ c.toNat ≤ 55 by omega)]; simp
theorem isOct_yes {c : UInt8} (h : 48 ≤ (c.toNat : Int)) (h' : (c.toNat : Int) ≤ 55) : isOct c = true := by unfold isOct; rw [decide_eq_true (by omega), decide_eq_true (by omega)]; rfl

/-- What the byte at a place counts for in a header's sum. -/
def sumC (i : Nat) (c : UInt8) : Nat := if 148 ≤ i ∧ i < 156 then 32 else c.toNat
/-- The sum of a header's first k bytes. -/
def sumK (s : ByteArray) : Nat → Nat
  | 0 => 0
  | k + 1 => sumK s k + sumC k (s.data.toList.getD k 0)
def sumH (s : ByteArray) : Nat := sumK s s.size
theorem sumK_le (s : ByteArray) : ∀ k, sumK s k ≤ 255 * k
  | 0 => Nat.le_refl _
  | k + 1 => by
    have h := sumK_le s k
    have hc : sumC k (s.data.toList.getD k 0) ≤ 255 := by
      unfold sumC
      split
      · omega
      · have := (s.data.toList.getD k 0).toNat_lt; omega
    simp only [sumK]; omega
theorem at_getD {s : ByteArray} {k : Nat} (h : k < s.size) : s.data.toList.getD k 0 = s[k] := by
  have h' : k < s.data.toList.length := by simpa using h
  rw [List.getD_eq_getElem?_getD, List.getElem?_eq_getElem h', Option.getD_some]; rfl
theorem sumK_in {s : ByteArray} {k : Nat} (h1 : 148 ≤ k) (h2 : k < 156) : sumK s (k + 1) = sumK s k + 32 := by
  simp only [sumK, sumC]; rw [if_pos ⟨h1, h2⟩]
theorem sumK_out {s : ByteArray} {k : Nat} (hk : k < s.size) (h : k < 148 ∨ 156 ≤ k) : sumK s (k + 1) = sumK s k + (s[k]).toNat := by
  simp only [sumK, sumC]; rw [if_neg (by omega), at_getD hk]
end Go.Proofs.Ytpokcbcffijheab.M
