/-
  The plain mathematics of chapter 2 (numbers as bytes), with no word of the program: what the seven-bit digits of a number are.
-/
import Derived.WalkKit
namespace Go.Proofs.Ytappficbjjkmiaa.M

/-- u of a number n: 2n, or -2n - 1. -/
def foldZ (n : Int) : Nat := if n < 0 then 2 * (-(n + 1)).toNat + 1 else 2 * n.toNat

theorem foldZ_neg {n : Int} (h : n < 0) : (foldZ n : Int) = 2 * (-(n + 1)) + 1 := by
  unfold foldZ; rw [if_pos h]; omega
theorem foldZ_pos {n : Int} (h : ¬ n < 0) : (foldZ n : Int) = 2 * n := by
  unfold foldZ; rw [if_neg h]; omega
theorem foldZ_lt {n : Int} (h1 : -9223372036854775808 ≤ n) (h2 : n ≤ 9223372036854775807) : (foldZ n : Int) < 18446744073709551616 := by
  unfold foldZ; split <;> omega

/-- The bytes of u, with fuel. -/
def encF : Nat → Nat → List UInt8
  | 0, u => [UInt8.ofNat u]
  | f + 1, u => if u < 128 then [UInt8.ofNat u] else UInt8.ofNat (u % 128 + 128) :: encF f (u / 128)
def enc (u : Nat) : List UInt8 := encF 10 u

theorem encF_more : ∀ (f u : Nat), u < 128 ^ (f + 1) → encF (f + 1) u = encF f u
  | 0, u, h => by
      have : u < 128 := by simpa using h
      simp [encF, this]
  | f + 1, u, h => by
      rw [encF]
      conv => rhs; rw [encF]
      by_cases hu : u < 128
      · rw [if_pos hu, if_pos hu]
      · rw [if_neg hu, if_neg hu, encF_more f (u / 128) (by rw [Nat.div_lt_iff_lt_mul (by omega)]; rw [Nat.pow_succ] at h; exact h)]

theorem enc_small {u : Nat} (h : u < 128) : enc u = [UInt8.ofNat u] := by
  unfold enc; rw [encF, if_pos h]
theorem enc_big {u : Nat} (h : ¬ u < 128) (hu : u < 18446744073709551616) : enc u = UInt8.ofNat (u % 128 + 128) :: enc (u / 128) := by
  unfold enc; rw [encF, if_neg h]
  rw [encF_more 9 (u / 128) (by have : (128 : Nat) ^ (9 + 1) = 1180591620717411303424 := by decide
                                omega)]

theorem encF_len : ∀ (f u : Nat), 1 ≤ (encF f u).length ∧ (encF f u).length ≤ f + 1
  | 0, u => by simp [encF]
  | f + 1, u => by
      rw [encF]
      by_cases hu : u < 128
      · rw [if_pos hu]; simp
      · rw [if_neg hu]; have := encF_len f (u / 128); simp; omega
theorem enc_len (u : Nat) : 1 ≤ (enc u).length ∧ (enc u).length ≤ 11 := encF_len 10 u

def cells (l : List UInt8) : List Value := l.map fun c => Value.int .u8 (c.toNat : Int)
theorem cells_append (a b : List UInt8) : cells (a ++ b) = cells a ++ cells b := List.map_append
theorem cells_length (a : List UInt8) : (cells a).length = a.length := List.length_map _
theorem toNat_ofNat {u : Nat} (h : u < 256) : (UInt8.ofNat u).toNat = u := by
  simp; omega

/-- PutText. -/
def putText (s : ByteArray) : ByteArray := if 20000 < s.size then ⟨#[]⟩ else ⟨(enc (foldZ (s.size : Int))).toArray⟩ ++ s
theorem putText_big {s : ByteArray} (h : 20000 < s.size) : putText s = ⟨#[]⟩ := by unfold putText; rw [if_pos h]
theorem putText_small {s : ByteArray} (h : ¬ 20000 < s.size) : putText s = ⟨(enc (foldZ (s.size : Int))).toArray⟩ ++ s := by unfold putText; rw [if_neg h]
theorem enc_size (u : Nat) : (⟨(enc u).toArray⟩ : ByteArray).size ≤ 11 := by
  have := (enc_len u).2
  simpa [ByteArray.size] using this
end Go.Proofs.Ytappficbjjkmiaa.M
