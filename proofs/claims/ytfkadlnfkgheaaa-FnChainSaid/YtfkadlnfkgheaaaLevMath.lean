/-
  The level of a run by the towers.
-/
import Derived.Test.YtfkadlnfkgheaaaRows
import Derived.WalkKit
namespace Go.Proofs.Ytfkadlnfkgheaaa
open Go.RowKit

/-- How often a number from 1 to 31 can be halved without a rest. -/
def M.half (m : Nat) : Nat := if m % 2 = 1 then 0 else if m % 4 = 2 then 1 else if m % 8 = 4 then 2 else if m % 16 = 8 then 3 else 4
/-- The level of the run j, of n levels, m what is left of j. -/
def M.lev (n : Int) (m : Nat) : Int := if m = 0 then 0 else n - 1 - (M.half m : Int)
def M.level (n j : Int) : Int := if n < 1 ∨ 6 < n ∨ j < 0 then -1 else M.lev n (j.toNat % 2 ^ (n.toNat - 1))
theorem M.half_of {m k h : Nat} (e : h * 2 ^ k = m) (ho : h % 2 = 1) (hm : m < 32) : M.half m = k := by
  have hk : k < 5 := by
    apply Decidable.byContradiction
    intro hn
    have : 2 ^ 5 ≤ 2 ^ k := Nat.pow_le_pow_right (by decide) (by omega)
    have h2 : 1 * 2 ^ k ≤ h * 2 ^ k := Nat.mul_le_mul_right _ (by omega)
    omega
  unfold M.half
  have : k = 0 ∨ k = 1 ∨ k = 2 ∨ k = 3 ∨ k = 4 := by omega
  rcases this with rfl | rfl | rfl | rfl | rfl <;> simp only [Nat.reducePow] at e
  · rw [if_pos (by omega)]
  · rw [if_neg (by omega), if_pos (by omega)]
  · rw [if_neg (by omega), if_neg (by omega), if_pos (by omega)]
  · rw [if_neg (by omega), if_neg (by omega), if_neg (by omega), if_pos (by omega)]
  · rw [if_neg (by omega), if_neg (by omega), if_neg (by omega), if_neg (by omega)]
theorem M.level_at {N J p : Nat} (h1 : 1 ≤ N) (h2 : N ≤ 6) (hp : p = 2 ^ (N - 1)) : M.level (N : Int) (J : Int) = M.lev N (J % p) := by
  unfold M.level
  rw [if_neg (by omega), hp]
  rfl
theorem M.level_bad {n j : Int} (h : n < 1 ∨ 6 < n ∨ j < 0) : M.level n j = -1 := by unfold M.level; rw [if_pos h]
theorem M.lev_zero (n : Int) : M.lev n 0 = 0 := rfl
theorem M.lev_pos {n : Int} {m : Nat} (h : m ≠ 0) : M.lev n m = n - 1 - (M.half m : Int) := by unfold M.lev; rw [if_neg h]
theorem M.rem_zero {J p : Nat} (h : J % p = 0) : (((J : Int) % (p : Int)) == 0) = true := by
  have : (J : Int) % (p : Int) = ((J % p : Nat) : Int) := by omega
  rw [this, h]; rfl
theorem M.rem_pos {J p : Nat} (h : J % p ≠ 0) : (((J : Int) % (p : Int)) == 0) = false := by
  have : (J : Int) % (p : Int) = ((J % p : Nat) : Int) := by omega
  rw [this]; simp; omega
end Go.Proofs.Ytfkadlnfkgheaaa
