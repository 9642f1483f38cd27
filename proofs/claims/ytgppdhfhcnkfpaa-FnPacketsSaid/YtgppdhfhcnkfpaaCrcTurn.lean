/-
  The CRC of a text with one byte turned is another one; a CRC goes on from text to text.
-/
import Derived.Test.YtgppdhfhcnkfpaaPart2
namespace Go.Proofs.Ytgppdhfhcnkfpaa.M
open Go.RowKit

theorem xor_right {a b c : Nat} (h : a ^^^ c = b ^^^ c) : a = b := by
  have := congrArg (· ^^^ c) h
  simpa [Nat.xor_assoc] using this
theorem xor_left {a b c : Nat} (h : c ^^^ a = c ^^^ b) : a = b := by
  rw [Nat.xor_comm c a, Nat.xor_comm c b] at h; exact xor_right h
theorem taps_high {x : Nat} (h : x < 2147483648) : 2147483648 ≤ x ^^^ 3988292384 := by
  have h1 : (x ^^^ 3988292384).testBit 31 = true := by
    rw [Nat.testBit_xor, Nat.testBit_lt_two_pow (show x < 2 ^ 31 by simpa using h)]; decide
  have := Nat.ge_two_pow_of_testBit h1
  simpa using this
theorem crcStep_inj {a b : Nat} (ha : a < 4294967296) (hb : b < 4294967296) (h : crcStep a = crcStep b) : a = b := by
  unfold crcStep at h
  by_cases h1 : a % 2 = 1 <;> by_cases h2 : b % 2 = 1
  · rw [if_pos h1, if_pos h2] at h
    have := xor_right h
    omega
  · rw [if_pos h1, if_neg h2] at h
    have := taps_high (x := a / 2) (by omega)
    omega
  · rw [if_neg h1, if_pos h2] at h
    have := taps_high (x := b / 2) (by omega)
    omega
  · rw [if_neg h1, if_neg h2] at h
    omega
theorem crcSteps_inj {a b : Nat} (ha : a < 4294967296) (hb : b < 4294967296) : ∀ k, crcSteps k a = crcSteps k b → a = b
  | 0, h => h
  | k + 1, h => crcSteps_inj ha hb k (crcStep_inj (crcSteps_lt ha k) (crcSteps_lt hb k) h)
theorem crcByte_reg {a b c : Nat} (ha : a < 4294967296) (hb : b < 4294967296) (hc : c < 256) (h : crcByte a c = crcByte b c) : a = b := by
  have := crcSteps_inj (xor_lt ha (by omega)) (xor_lt hb (by omega)) 8 h
  exact xor_right this
theorem crcByte_byte {r c d : Nat} (hr : r < 4294967296) (hc : c < 256) (hd : d < 256) (h : crcByte r c = crcByte r d) : c = d := by
  have := crcSteps_inj (xor_lt hr (by omega)) (xor_lt hr (by omega)) 8 h
  exact xor_left this
theorem crcReg_inj {a b : Nat} (ha : a < 4294967296) (hb : b < 4294967296) : ∀ (l : List UInt8), crcReg a l = crcReg b l → a = b := by
  intro l
  induction l generalizing a b with
  | nil => intro h; exact h
  | cons c l ih =>
    intro h
    exact crcByte_reg ha hb c.toNat_lt (ih (crcByte_lt ha c.toNat_lt) (crcByte_lt hb c.toNat_lt) h)
theorem crcReg_append (r : Nat) (a b : List UInt8) : crcReg r (a ++ b) = crcReg (crcReg r a) b := by unfold crcReg; rw [List.foldl_append]
/-- One byte turned turns the CRC. -/
theorem crcReg_turned {r : Nat} (hr : r < 4294967296) (x y : List UInt8) (c d : UInt8) (h : crcReg r (x ++ c :: y) = crcReg r (x ++ d :: y)) : c = d := by
  rw [crcReg_append, crcReg_append] at h
  have hx := crcReg_lt hr x
  have h1 : crcByte (crcReg r x) c.toNat = crcByte (crcReg r x) d.toNat := crcReg_inj (crcByte_lt hx c.toNat_lt) (crcByte_lt hx d.toNat_lt) y h
  exact UInt8.toNat_inj.1 (crcByte_byte hx c.toNat_lt d.toNat_lt h1)

theorem crcMore0 {s : ByteArray} (h : ¬ 20000 < s.size) : crcMore 0 s = ((4294967295 - crcReg 4294967295 s.data.toList : Nat) : Int) := by
  rw [crcMore_yes (by omega)]
  exact crcOf_eq 0 s (by omega)
/-- A CRC goes on from text to text. -/
theorem crc_goes_on (t u : ByteArray) (h : ¬ 20000 < t.size + u.size) : crcMore (crcMore 0 t) u = crcMore 0 (t ++ u) := by
  have hl := crcReg_lt (r := 4294967295) (by omega) t.data.toList
  rw [crcMore0 (s := t) (by omega), crcMore0 (s := t ++ u) (by rw [ByteArray.size_append]; omega)]
  rw [crcMore_yes (by omega), crcOf_eq _ u (by omega), ByteArray.data_append, Array.toList_append, crcReg_append]
  rw [show 4294967295 - (4294967295 - crcReg 4294967295 t.data.toList) = crcReg 4294967295 t.data.toList by omega]
end Go.Proofs.Ytgppdhfhcnkfpaa.M
