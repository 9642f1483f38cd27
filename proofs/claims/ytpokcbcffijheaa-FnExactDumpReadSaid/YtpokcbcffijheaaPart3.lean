/-
  The plain mathematics of chapter 2 (numbers as bytes), with no word of the program: what the seven-bit digits of a number are.
-/
import Derived.Test.YtpokcbcffijheaaPart1
import Derived.WalkKit
namespace Go.Proofs.Ytpokcbcffijheaa.M

/-- u of a number n: 2n, or -2n - 1. -/
def foldZ (n : Int) : Nat := if n < 0 then 2 * (-(n + 1)).toNat + 1 else 2 * n.toNat

theorem foldZ_neg {n : Int} (h : n < 0) : (foldZ n : Int) = 2 * (-(n + 1)) + 1 := by
  unfold foldZ; rw [if_pos h]; omega
theorem foldZ_pos {n : Int} (h : ¬ n < 0) : (foldZ n : Int) = 2 * n := by
  unfold foldZ; rw [if_neg h]; omega
theorem foldZ_lt {n : Int} (h1 : -9223372036854775808 ≤ n) (h2 : n ≤ 9223372036854775807) : (foldZ n : Int) < 18446744073709551616 := by
  unfold foldZ; split <;> omega

/-- The bytes of u, with fuel. -/
def encF : Nat → Nat → List UInt8
  | 0, u => [UInt8.ofNat u]
  | f + 1, u => if u < 128 then [UInt8.ofNat u] else UInt8.ofNat (u % 128 + 128) :: encF f (u / 128)
def enc (u : Nat) : List UInt8 := encF 10 u

theorem encF_more : ∀ (f u : Nat), u < 128 ^ (f + 1) → encF (f + 1) u = encF f u
  | 0, u, h => by
      have : u < 128 := by simpa using h
      simp [encF, this]
  | f + 1, u, h => by
      rw [encF]
      conv => rhs; rw [encF]
      by_cases hu : u < 128
      · rw [if_pos hu, if_pos hu]
      · rw [if_neg hu, if_neg hu, encF_more f (u / 128) (by rw [Nat.div_lt_iff_lt_mul (by omega)]; rw [Nat.pow_succ] at h; exact h)]

theorem enc_small {u : Nat} (h : u < 128) : enc u = [UInt8.ofNat u] := by
  unfold enc; rw [encF, if_pos h]
theorem enc_big {u : Nat} (h : ¬ u < 128) (hu : u < 18446744073709551616) : enc u = UInt8.ofNat (u % 128 + 128) :: enc (u / 128) := by
  unfold enc; rw [encF, if_neg h]
  rw [encF_more 9 (u / 128) (by have : (128 : Nat) ^ (9 + 1) = 1180591620717411303424 := by decide
                                omega)]

theorem encF_len : ∀ (f u : Nat), 1 ≤ (encF f u).length ∧ (encF f u).length ≤ f + 1
  | 0, u => by simp [encF]
  | f + 1, u => by
      rw [encF]
      by_cases hu : u < 128
      · rw [if_pos hu]; simp
      · rw [if_neg hu]; have := encF_len f (u / 128); simp; omega
theorem enc_len (u : Nat) : 1 ≤ (enc u).length ∧ (enc u).length ≤ 11 := encF_len 10 u

def cells (l : List UInt8) : List Value := l.map fun c => Value.int .u8 (c.toNat : Int)
theorem cells_append (a b : List UInt8) : cells (a ++ b) = cells a ++ cells b := List.map_append
theorem cells_length (a : List UInt8) : (cells a).length = a.length := List.length_map _
theorem toNat_ofNat {u : Nat} (h : u < 256) : (UInt8.ofNat u).toNat = u := by
  simp; omega

/-- PutText. -/
def putText (s : ByteArray) : ByteArray := if 20000 < s.size then ⟨#[]⟩ else ⟨(enc (foldZ (s.size : Int))).toArray⟩ ++ s
theorem putText_big {s : ByteArray} (h : 20000 < s.size) : putText s = ⟨#[]⟩ := by unfold putText; rw [if_pos h]
theorem putText_small {s : ByteArray} (h : ¬ 20000 < s.size) : putText s = ⟨(enc (foldZ (s.size : Int))).toArray⟩ ++ s := by unfold putText; rw [if_neg h]
theorem enc_size (u : Nat) : (⟨(enc u).toArray⟩ : ByteArray).size ≤ 11 := by
  have := (enc_len u).2
  simpa [ByteArray.size] using this
end Go.Proofs.Ytpokcbcffijheaa.M

/-
  What a number was read from is its bytes, as few as may be.
-/
namespace Go.Proofs.Ytpokcbcffijheaa.M

theorem pow_step {i : Nat} (h : i ≤ 8) : 2 ^ (64 - 7 * i) = 128 * 2 ^ (64 - 7 * (i + 1)) := by
  rw [show 64 - 7 * i = (64 - 7 * (i + 1)) + 7 by omega, Nat.pow_add]; omega
theorem pow_64 (i : Nat) : 2 ^ (64 - 7 * i) ≤ 18446744073709551616 := by
  have : (2 : Nat) ^ (64 - 7 * i) ≤ 2 ^ 64 := Nat.pow_le_pow_right (by decide) (by omega)
  simpa using this
theorem ofNat_toNat (c : UInt8) : UInt8.ofNat c.toNat = c := UInt8.ofNat_toNat

/-- Where a number is read, its bytes stand there, as PutNum would have laid them. -/
theorem rd_canon : ∀ (l : List UInt8) (i v v' k : Nat), i ≤ 9 → rd i v l = (0, v', k) →
    ∃ (u : Nat) (rest : List UInt8), l = enc u ++ rest ∧ k = i + (enc u).length ∧ v' = v + u * 2 ^ (7 * i) ∧ (i ≠ 0 → 1 ≤ u) ∧ u < 2 ^ (64 - 7 * i)
  | [], i, v, v', k, _, h => by rw [rd_nil] at h; cases h
  | c :: l, i, v, v', k, hi, h => by
    by_cases h9 : i = 9 ∧ 1 < c.toNat
    · rw [rd_ten h9.1 h9.2] at h; cases h
    by_cases hc : c.toNat < 128
    · by_cases hz : c.toNat = 0 ∧ i ≠ 0
      · rw [rd_zero hz.2 hz.1] at h; cases h
      · rw [rd_last h9 hc hz] at h
        cases h
        have e : enc c.toNat = [c] := by rw [enc_small hc, ofNat_toNat]
        refine ⟨c.toNat, l, by rw [e]; rfl, by rw [e]; rfl, rfl, fun h0 => by omega, ?_⟩
        rcases (show i = 9 ∨ i ≤ 8 by omega) with h | h
        · subst h
          have : (2 : Nat) ^ (64 - 7 * 9) = 2 := by decide
          omega
        · have h2 := pow_step h
          have h3 : 1 ≤ 2 ^ (64 - 7 * (i + 1)) := Nat.pos_of_ne_zero (by simp)
          omega
    · have hi9 : ¬ i = 9 := fun h => h9 ⟨h, by omega⟩
      rw [rd_more hi9 hc] at h
      obtain ⟨u, rest, hl, hk, hv, h1, hu⟩ := rd_canon l (i + 1) _ v' k (by omega) h
      have h1' := h1 (by omega)
      have hlt := c.toNat_lt
      have h2 := pow_step (i := i) (by omega)
      have h64 := pow_64 i
      have hbig : c.toNat % 128 + 128 * u < 2 ^ (64 - 7 * i) := by omega
      have e : enc (c.toNat % 128 + 128 * u) = c :: enc u := by
        rw [enc_big (by omega) (by omega), show (c.toNat % 128 + 128 * u) % 128 + 128 = c.toNat by omega, ofNat_toNat,
          show (c.toNat % 128 + 128 * u) / 128 = u by omega]
      refine ⟨c.toNat % 128 + 128 * u, rest, by rw [e, hl]; rfl, by rw [e, hk, List.length_cons]; omega, ?_, fun _ => by omega, hbig⟩
      rw [hv, pow7, Nat.add_mul, Nat.add_assoc]
      congr 2
      rw [← Nat.mul_assoc, Nat.mul_comm u 128]
end Go.Proofs.Ytpokcbcffijheaa.M
