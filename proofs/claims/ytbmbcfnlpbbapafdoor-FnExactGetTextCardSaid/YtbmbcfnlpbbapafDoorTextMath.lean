/-
  How a text is read from its bytes, with no word of the program's running.
-/
import Derived.Test.YtbmbcfnlpbbapafDoorNumAny
namespace Go.Proofs.YtbmbcfnlpbbapafDoor.M

theorem rd_len : ∀ (l : List UInt8) (i u v k : Nat), rd i u l = (0, v, k) → i + 1 ≤ k ∧ k ≤ i + l.length
  | [], i, u, v, k, h => by rw [rd_nil] at h; simp at h
  | c :: l, i, u, v, k, h => by
      rw [rd] at h
      by_cases h1 : i = 9 ∧ 1 < c.toNat
      · rw [if_pos h1] at h; simp at h
      · rw [if_neg h1] at h
        by_cases h2 : c.toNat < 128
        · rw [if_pos h2] at h
          by_cases h3 : c.toNat = 0 ∧ i ≠ 0
          · rw [if_pos h3] at h; simp at h
          · rw [if_neg h3] at h
            simp only [Prod.mk.injEq] at h
            simp only [List.length_cons]
            omega
        · rw [if_neg h2] at h
          have := rd_len l (i + 1) _ v k h
          simp only [List.length_cons]
          omega
theorem rd_low : ∀ (l : List UInt8) (i u v k : Nat), i ≤ 9 → u < 2 ^ (7 * i) → rd i u l = (0, v, k) → v < 18446744073709551616
  | [], i, u, v, k, _, _, h => by rw [rd_nil] at h; simp at h
  | c :: l, i, u, v, k, hi, hu, h => by
      rw [rd] at h
      by_cases h1 : i = 9 ∧ 1 < c.toNat
      · rw [if_pos h1] at h; simp at h
      · rw [if_neg h1] at h
        by_cases h2 : c.toNat < 128
        · rw [if_pos h2] at h
          by_cases h3 : c.toNat = 0 ∧ i ≠ 0
          · rw [if_pos h3] at h; simp at h
          · rw [if_neg h3] at h
            simp only [Prod.mk.injEq] at h
            obtain ⟨_, rfl, _⟩ := h
            have := sum_lt (c := c.toNat) hu hi (by omega)
            rwa [Nat.mod_eq_of_lt h2] at this
        · rw [if_neg h2] at h
          exact rd_low l (i + 1) _ v k (by omega) (low_next hu (Nat.mod_lt _ (by decide))) h

/-- Where a number was read, its place behind it lies within the text, and it is one of int64. -/
theorem num3_ok {s : ByteArray} {n : Int} (h : (num3 s n).2.2 = 0) : 0 ≤ (num3 s n).2.1 ∧ (num3 s n).2.1 ≤ s.size ∧ -9223372036854775808 ≤ (num3 s n).1 ∧ (num3 s n).1 ≤ 9223372036854775807 ∧ s.size ≤ 20000 := by
  by_cases h1 : 20000 < s.size
  · rw [num3_size h1] at h; simp at h
  by_cases h0 : n < 0
  · rw [num3_form h1 h0] at h; simp at h
  obtain ⟨k, rfl⟩ := Int.eq_ofNat_of_zero_le (show 0 ≤ n by omega)
  rw [num3_in h1] at h ⊢
  simp only at h ⊢
  rw [if_pos h, if_pos h]
  generalize hr : rd 0 0 (s.data.toList.drop k) = r at *
  obtain ⟨c, v, m⟩ := r
  simp only at h ⊢
  subst h
  have hl := rd_len _ _ _ _ _ hr
  have hv := unZ_range (rd_low _ _ _ _ _ (by omega) (by decide) hr)
  have hd : (s.data.toList.drop k).length = s.size - k := by simp
  rw [hd] at hl
  omega

/-- GetText's text, place and code. -/
def txt3 (s : ByteArray) (n : Int) : ByteArray × Int × Nat :=
  if (num3 s n).2.2 ≠ 0 then (⟨#[]⟩, 0, (num3 s n).2.2) else
  if (num3 s n).1 < 0 ∨ 20000 < (num3 s n).1 then (⟨#[]⟩, 0, 3) else
  if (s.size : Int) - (num3 s n).2.1 < (num3 s n).1 then (⟨#[]⟩, 0, 4) else
  (s.extract (num3 s n).2.1.toNat ((num3 s n).2.1.toNat + (num3 s n).1.toNat), (num3 s n).2.1 + (num3 s n).1, 0)
end Go.Proofs.YtbmbcfnlpbbapafDoor.M
