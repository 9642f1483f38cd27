/-
  What a number was read from is its bytes, as few as may be.
-/
import Derived.Test.YtephjmlcbpfnaaaGreatDoorPart2
import Derived.Test.YtephjmlcbpfnaaaGreatDoorPart4
namespace Go.Proofs.YtephjmlcbpfnaaaGreatDoor.M

theorem pow_step {i : Nat} (h : i ≤ 8) : 2 ^ (64 - 7 * i) = 128 * 2 ^ (64 - 7 * (i + 1)) := by
  rw [show 64 - 7 * i = (64 - 7 * (i + 1)) + 7 by omega, Nat.pow_add]; omega
theorem pow_64 (i : Nat) : 2 ^ (64 - 7 * i) ≤ 18446744073709551616 := by
  have : (2 : Nat) ^ (64 - 7 * i) ≤ 2 ^ 64 := Nat.pow_le_pow_right (by decide) (by omega)
  simpa using this
theorem ofNat_toNat (c : UInt8) : UInt8.ofNat c.toNat = c := UInt8.ofNat_toNat

/-- Where a number is read, its bytes stand there, as PutNum would have laid them. -/
theorem rd_canon : ∀ (l : List UInt8) (i v v' k : Nat), i ≤ 9 → rd i v l = (0, v', k) →
    ∃ (u : Nat) (rest : List UInt8), l = enc u ++ rest ∧ k = i + (enc u).length ∧ v' = v + u * 2 ^ (7 * i) ∧ (i ≠ 0 → 1 ≤ u) ∧ u < 2 ^ (64 - 7 * i)
  | [], i, v, v', k, _, h => by rw [rd_nil] at h; cases h
  | c :: l, i, v, v', k, hi, h => by
    by_cases h9 : i = 9 ∧ 1 < c.toNat
    · rw [rd_ten h9.1 h9.2] at h; cases h
    by_cases hc : c.toNat < 128
    · by_cases hz : c.toNat = 0 ∧ i ≠ 0
      · rw [rd_zero hz.2 hz.1] at h; cases h
      · rw [rd_last h9 hc hz] at h
        cases h
        have e : enc c.toNat = [c] := by rw [enc_small hc, ofNat_toNat]
        refine ⟨c.toNat, l, by rw [e]; rfl, by rw [e]; rfl, rfl, fun h0 => by omega, ?_⟩
        rcases (show i = 9 ∨ i ≤ 8 by omega) with h | h
        · subst h
          have : (2 : Nat) ^ (64 - 7 * 9) = 2 := by decide
          omega
        · have h2 := pow_step h
          have h3 : 1 ≤ 2 ^ (64 - 7 * (i + 1)) := Nat.pos_of_ne_zero (by simp)
          omega
    · have hi9 : ¬ i = 9 := fun h => h9 ⟨h, by omega⟩
      rw [rd_more hi9 hc] at h
      obtain ⟨u, rest, hl, hk, hv, h1, hu⟩ := rd_canon l (i + 1) _ v' k (by omega) h
      have h1' := h1 (by omega)
      have hlt := c.toNat_lt
      have h2 := pow_step (i := i) (by omega)
      have h64 := pow_64 i
      have hbig : c.toNat % 128 + 128 * u < 2 ^ (64 - 7 * i) := by omega
      have e : enc (c.toNat % 128 + 128 * u) = c :: enc u := by
        rw [enc_big (by omega) (by omega), show (c.toNat % 128 + 128 * u) % 128 + 128 = c.toNat by omega, ofNat_toNat,
          show (c.toNat % 128 + 128 * u) / 128 = u by omega]
      refine ⟨c.toNat % 128 + 128 * u, rest, by rw [e, hl]; rfl, by rw [e, hk, List.length_cons]; omega, ?_, fun _ => by omega, hbig⟩
      rw [hv, pow7, Nat.add_mul, Nat.add_assoc]
      congr 2
      rw [← Nat.mul_assoc, Nat.mul_comm u 128]
end Go.Proofs.YtephjmlcbpfnaaaGreatDoor.M
