/-
  Digits to the base of eight, as few as may be, with no word of the program.
-/
import Derived.Test.YtpokcbcffijheabOctMath
namespace Go.Proofs.Ytpokcbcffijheab.M

/-- L is how many digits n has to the base of eight, one at least. -/
def OctL (n L : Nat) : Prop := 1 ≤ L ∧ n < 8 ^ L ∧ (L = 1 ∨ 8 ^ (L - 1) ≤ n)
theorem OctL.pos {n L : Nat} (h : OctL n L) : 1 ≤ L := h.1
theorem pow8_le {a b : Nat} (h : a ≤ b) : 8 ^ a ≤ 8 ^ b := Nat.pow_le_pow_right (by decide) h
theorem OctL.fits {n L d : Nat} (h : OctL n L) (hd : L ≤ d) : n / 8 ^ d = 0 := Nat.div_eq_of_lt (Nat.lt_of_lt_of_le h.2.1 (pow8_le hd))
theorem OctL.more {n L d : Nat} (h : OctL n L) (h1 : 1 ≤ d) (hd : d < L) : n / 8 ^ d ≠ 0 := by
  rcases h.2.2 with e | e
  · omega
  · have h8 : 8 ^ d ≤ n := Nat.le_trans (pow8_le (by omega)) e
    exact Nat.ne_of_gt (Nat.div_pos h8 (Nat.pow_pos (by decide)))
theorem octT_pad {n L : Nat} (h : n < 8 ^ L) : ∀ k, octT (L + k) n = List.replicate k 48 ++ octT L n
  | 0 => by simp
  | k + 1 => by
    have e : n / 8 ^ (L + k) = 0 := Nat.div_eq_of_lt (Nat.lt_of_lt_of_le h (pow8_le (by omega)))
    rw [show L + (k + 1) = (L + k) + 1 by omega, octT, octT_pad h k, e, List.replicate_succ]
    rfl
theorem OctL.text {n L d : Nat} (h : OctL n L) (hd : L ≤ d) : octB n d = ⟨(List.replicate (d - L) (48 : UInt8) ++ octT L n).toArray⟩ := by
  unfold M.octB
  rw [if_pos (h.fits hd), ← octT_pad h.2.1 (d - L), show L + (d - L) = d by omega]
theorem OctL.text_no {n L d : Nat} (h : OctL n L) (h1 : 1 ≤ d) (hd : d < L) : octB n d = ⟨#[]⟩ := by
  unfold M.octB
  rw [if_neg (h.more h1 hd)]
/-- The last digit that a loop over the digits writes ends them. -/
theorem OctL.last {n j : Nat} (h1 : n / 8 ^ j < 8) (h2 : j = 0 ∨ 8 ≤ n / 8 ^ (j - 1)) : OctL n (j + 1) := by
  refine ⟨by omega, ?_, ?_⟩
  · rw [Nat.pow_succ]
    rw [Nat.div_lt_iff_lt_mul (Nat.pow_pos (by decide))] at h1
    omega
  · rcases h2 with rfl | h2
    · exact .inl rfl
    · rcases Nat.eq_zero_or_pos j with rfl | hj
      · exact .inl rfl
      · right
        rw [Nat.le_div_iff_mul_le (Nat.pow_pos (by decide))] at h2
        rw [show j + 1 - 1 = (j - 1) + 1 by omega, Nat.pow_succ]
        omega
theorem OctL.le {n L : Nat} (h : OctL n L) (hn : n < 8 ^ 21) : L ≤ 21 := by
  rcases h.2.2 with e | e
  · omega
  · have := Nat.lt_of_le_of_lt e hn
    have := (Nat.pow_lt_pow_iff_right (show 1 < 8 by decide)).1 this
    omega
theorem OctL.of (n : Nat) : ∃ L, OctL n L := by
  have key : ∀ k, n < 8 ^ (k + 1) → ∃ L, OctL n L := by
    intro k
    induction k with
    | zero => intro h; exact ⟨1, Nat.le_refl _, h, .inl rfl⟩
    | succ k ih =>
      intro h
      by_cases e : n < 8 ^ (k + 1)
      · exact ih e
      · exact ⟨k + 2, by omega, h, .inr (by simpa using Nat.le_of_not_lt e)⟩
  refine key n ?_
  exact Nat.lt_of_lt_of_le (Nat.lt_pow_self (by decide : 1 < 8)) (pow8_le (by omega))
theorem set_oct (m j n : Nat) (c : UInt8) (hc : c = UInt8.ofNat (48 + n / 8 ^ j % 8)) : (List.replicate (m + 1) (0 : UInt8) ++ octT j n).set m c = List.replicate m 0 ++ octT (j + 1) n := by
  rw [List.set_append_left _ _ (by simp), List.replicate_succ', List.set_append_right _ _ (by simp)]
  simp [octT, hc]
theorem div_step (n j : Nat) : n / 8 ^ j / 8 = n / 8 ^ (j + 1) := by rw [Nat.div_div_eq_div_mul, ← Nat.pow_succ]
end Go.Proofs.Ytpokcbcffijheab.M
