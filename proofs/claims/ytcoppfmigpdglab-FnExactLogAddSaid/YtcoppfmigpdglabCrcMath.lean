/-
  The CRC, with no word of the program: a register of 32 bits, bit by bit.
-/
import Derived.WalkKit
namespace Go.Proofs.Ytcoppfmigpdglab.M

/-- One bit's step of a register into which the byte has been put. -/
def crcStep (r : Nat) : Nat := if r % 2 = 1 then (r / 2) ^^^ 3988292384 else r / 2
def crcSteps : Nat → Nat → Nat
  | 0, r => r
  | k + 1, r => crcStep (crcSteps k r)
def crcByte (r b : Nat) : Nat := crcSteps 8 (r ^^^ b)
/-- The register behind a text's first k bytes. -/
def crcReg (r : Nat) (s : List UInt8) : Nat := s.foldl (fun r c => crcByte r c.toNat) r
def crcOf (crc : Int) (s : ByteArray) : Int := ((crcReg (4294967295 - crc.toNat) s.data.toList ^^^ 4294967295 : Nat) : Int)

theorem xor_lt {a b : Nat} (ha : a < 4294967296) (hb : b < 4294967296) : a ^^^ b < 4294967296 := Nat.xor_lt_two_pow (n := 32) ha hb
theorem crcStep_lt {r : Nat} (h : r < 4294967296) : crcStep r < 4294967296 := by
  unfold crcStep
  by_cases h1 : r % 2 = 1
  · rw [if_pos h1]; exact xor_lt (by omega) (by decide)
  · rw [if_neg h1]; omega
theorem crcSteps_lt {r : Nat} (h : r < 4294967296) : ∀ k, crcSteps k r < 4294967296
  | 0 => h
  | k + 1 => crcStep_lt (crcSteps_lt h k)
theorem crcByte_lt {r b : Nat} (h : r < 4294967296) (hb : b < 256) : crcByte r b < 4294967296 := crcSteps_lt (xor_lt h (by omega)) 8
theorem crcReg_snoc (r : Nat) (l : List UInt8) (c : UInt8) : crcReg r (l ++ [c]) = crcByte (crcReg r l) c.toNat := by
  unfold crcReg; rw [List.foldl_append]; rfl
theorem crcReg_lt {r : Nat} (h : r < 4294967296) (l : List UInt8) : crcReg r l < 4294967296 := by
  induction l generalizing r with
  | nil => exact h
  | cons c l ih => exact ih (crcByte_lt h c.toNat_lt)

theorem half_xor (a b : Nat) : (a ^^^ b) / 2 = (a / 2) ^^^ (b / 2) := by
  have := Nat.shiftRight_xor_distrib (a := a) (b := b) (i := 1)
  simpa [Nat.shiftRight_eq_div_pow] using this
/-- The program's step, which puts a byte's bit in as it goes, against the other, which puts the whole byte in first. -/
theorem iStep_odd {r y s : Nat} (h : r ^^^ y = s) (h1 : (r ^^^ y) % 2 = 1) : ((r / 2) ^^^ 3988292384) ^^^ (y / 2) = crcStep s := by
  subst h
  unfold crcStep
  rw [if_pos h1, half_xor]
  rw [Nat.xor_assoc, Nat.xor_comm 3988292384, ← Nat.xor_assoc]
theorem iStep_even {r y s : Nat} (h : r ^^^ y = s) (h1 : ¬ (r ^^^ y) % 2 = 1) : (r / 2) ^^^ (y / 2) = crcStep s := by
  subst h
  unfold crcStep
  rw [if_neg h1, half_xor]
theorem flip32 {r : Nat} (h : r < 4294967296) : r ^^^ 4294967295 = 4294967295 - r := by
  have := BitVec.toNat_not (x := (BitVec.ofNat 32 r))
  have h2 : (BitVec.ofNat 32 r).toNat = r := by simp; omega
  have h3 : ~~~(BitVec.ofNat 32 r) = (BitVec.ofNat 32 r) ^^^ BitVec.allOnes 32 := (BitVec.xor_allOnes).symm
  have h4 := congrArg BitVec.toNat h3
  rw [BitVec.toNat_xor, h2, this, h2] at h4
  simpa using h4.symm

theorem bits_test {x y : Nat} (hx : x < 4294967296) (hy : y < 4294967296) : bits .and .u32 (bits .xor .u32 (x : Int) (y : Int)) 1 = (((x ^^^ y) % 2 : Nat) : Int) := by
  rw [u32_xor_nat x y hx hy]
  have h1 := u32_and_nat (x ^^^ y) 1 (xor_lt hx hy) (by decide)
  rw [show ((1 : Nat) : Int) = 1 from rfl] at h1
  rw [h1, nat_mask1]
theorem bits_taps {x : Nat} (hx : x < 4294967296) : bits .xor .u32 ((x : Int) / 2) 3988292384 = ((x / 2 ^^^ 3988292384 : Nat) : Int) := by
  have h1 := u32_xor_nat (x / 2) 3988292384 (by omega) (by decide)
  rw [← h1]
  congr 1
theorem cast_pow (b k : Nat) : ((b : Int) / 2 ^ k) = ((b / 2 ^ k : Nat) : Int) := by simp
theorem div_pow_succ (b k : Nat) : b / 2 ^ k / 2 = b / 2 ^ (k + 1) := by rw [Nat.div_div_eq_div_mul, Nat.pow_succ]
theorem crcStep_odd {s : Nat} (h : s % 2 = 1) : crcStep s = (s / 2) ^^^ 3988292384 := by unfold crcStep; rw [if_pos h]
theorem crcStep_even {s : Nat} (h : ¬ s % 2 = 1) : crcStep s = s / 2 := by unfold crcStep; rw [if_neg h]

theorem bits_flip {x : Nat} (hx : x < 4294967296) : bits .xor .u32 (x : Int) 4294967295 = ((4294967295 - x : Nat) : Int) := by
  have h1 := u32_xor_nat x 4294967295 hx (by decide)
  rw [show ((4294967295 : Nat) : Int) = 4294967295 from rfl] at h1
  rw [h1, flip32 hx]
theorem bits_flip' {x : Nat} (hx : x < 4294967296) : bits .xor .u32 IntKind.u32.max (x : Int) = ((4294967295 - x : Nat) : Int) := by
  have h1 := u32_xor_nat 4294967295 x (by decide) hx
  rw [show IntKind.u32.max = ((4294967295 : Nat) : Int) by decide, h1, Nat.xor_comm, flip32 hx]
theorem bits_odd {x : Nat} (hx : x < 4294967296) : bits .and .u32 (x : Int) 1 = ((x % 2 : Nat) : Int) := by
  have h1 := u32_and_nat x 1 hx (by decide)
  rw [show ((1 : Nat) : Int) = 1 from rfl] at h1
  rw [h1, nat_mask1]
theorem crcOf_eq (crc : Nat) (s : ByteArray) (hc : crc < 4294967296) : crcOf (crc : Int) s = ((4294967295 - crcReg (4294967295 - crc) s.data.toList : Nat) : Int) := by
  unfold crcOf
  rw [Int.toNat_natCast, flip32 (crcReg_lt (by omega) _)]
theorem take_snoc (s : ByteArray) (k : Nat) (h : k < s.size) : s.data.toList.take (k + 1) = s.data.toList.take k ++ [s[k]] := by
  rw [List.take_succ_eq_append_getElem (by simpa using h)]; rfl
theorem take_all (s : ByteArray) : s.data.toList.take s.size = s.data.toList := List.take_of_length_le (by simp)
/-- What Crc and CrcMore tell. -/
def crcMore (crc : Int) (s : ByteArray) : Int := if 20000 < s.size ∨ crc < 0 ∨ 4294967295 < crc then 0 else crcOf crc s
theorem crcMore_no {crc : Int} {s : ByteArray} (h : 20000 < s.size ∨ crc < 0 ∨ 4294967295 < crc) : crcMore crc s = 0 := by unfold crcMore; rw [if_pos h]
theorem crcMore_yes {crc : Int} {s : ByteArray} (h : ¬ (20000 < s.size ∨ crc < 0 ∨ 4294967295 < crc)) : crcMore crc s = crcOf crc s := by unfold crcMore; rw [if_neg h]
theorem crcOf_range (crc : Nat) (s : ByteArray) (hc : crc < 4294967296) : 0 ≤ crcOf (crc : Int) s ∧ crcOf (crc : Int) s ≤ 4294967295 := by
  rw [crcOf_eq crc s hc]; omega
theorem crcMore_range (s : ByteArray) : 0 ≤ crcMore 0 s ∧ crcMore 0 s ≤ 4294967295 := by
  by_cases h : 20000 < s.size
  · rw [crcMore_no (.inl h)]; omega
  · rw [crcMore_yes (by omega)]; exact crcOf_range 0 s (by omega)
end Go.Proofs.Ytcoppfmigpdglab.M
