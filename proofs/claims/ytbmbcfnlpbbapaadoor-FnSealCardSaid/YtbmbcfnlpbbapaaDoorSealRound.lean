/-
  A sealed text comes back; with one byte turned it is refused; a CRC goes on from text to text: the mathematics of promise 2.
-/
import Derived.Test.YtbmbcfnlpbbapaaDoorIUnseal
namespace Go.Proofs.YtbmbcfnlpbbapaaDoor.M
open Go.RowKit

theorem xor_right {a b c : Nat} (h : a ^^^ c = b ^^^ c) : a = b := by
  have := congrArg (· ^^^ c) h
  simpa [Nat.xor_assoc] using this
theorem xor_left {a b c : Nat} (h : c ^^^ a = c ^^^ b) : a = b := by
  rw [Nat.xor_comm c a, Nat.xor_comm c b] at h; exact xor_right h
theorem taps_high {x : Nat} (h : x < 2147483648) : 2147483648 ≤ x ^^^ 3988292384 := by
  have h1 : (x ^^^ 3988292384).testBit 31 = true := by
    rw [Nat.testBit_xor, Nat.testBit_lt_two_pow (show x < 2 ^ 31 by simpa using h)]; decide
  have := Nat.ge_two_pow_of_testBit h1
  simpa using this
theorem crcStep_inj {a b : Nat} (ha : a < 4294967296) (hb : b < 4294967296) (h : crcStep a = crcStep b) : a = b := by
  unfold crcStep at h
  by_cases h1 : a % 2 = 1 <;> by_cases h2 : b % 2 = 1
  · rw [if_pos h1, if_pos h2] at h
    have := xor_right h
    omega
  · rw [if_pos h1, if_neg h2] at h
    have := taps_high (x := a / 2) (by omega)
    omega
  · rw [if_neg h1, if_pos h2] at h
    have := taps_high (x := b / 2) (by omega)
    omega
  · rw [if_neg h1, if_neg h2] at h
    omega
theorem crcSteps_inj {a b : Nat} (ha : a < 4294967296) (hb : b < 4294967296) : ∀ k, crcSteps k a = crcSteps k b → a = b
  | 0, h => h
  | k + 1, h => crcSteps_inj ha hb k (crcStep_inj (crcSteps_lt ha k) (crcSteps_lt hb k) h)
theorem crcByte_reg {a b c : Nat} (ha : a < 4294967296) (hb : b < 4294967296) (hc : c < 256) (h : crcByte a c = crcByte b c) : a = b := by
  have := crcSteps_inj (xor_lt ha (by omega)) (xor_lt hb (by omega)) 8 h
  exact xor_right this
theorem crcByte_byte {r c d : Nat} (hr : r < 4294967296) (hc : c < 256) (hd : d < 256) (h : crcByte r c = crcByte r d) : c = d := by
  have := crcSteps_inj (xor_lt hr (by omega)) (xor_lt hr (by omega)) 8 h
  exact xor_left this
theorem crcReg_inj {a b : Nat} (ha : a < 4294967296) (hb : b < 4294967296) : ∀ (l : List UInt8), crcReg a l = crcReg b l → a = b := by
  intro l
  induction l generalizing a b with
  | nil => intro h; exact h
  | cons c l ih =>
    intro h
    exact crcByte_reg ha hb c.toNat_lt (ih (crcByte_lt ha c.toNat_lt) (crcByte_lt hb c.toNat_lt) h)
theorem crcReg_append (r : Nat) (a b : List UInt8) : crcReg r (a ++ b) = crcReg (crcReg r a) b := by unfold crcReg; rw [List.foldl_append]
/-- One byte turned turns the CRC. -/
theorem crcReg_turned {r : Nat} (hr : r < 4294967296) (x y : List UInt8) (c d : UInt8) (h : crcReg r (x ++ c :: y) = crcReg r (x ++ d :: y)) : c = d := by
  rw [crcReg_append, crcReg_append] at h
  have hx := crcReg_lt hr x
  have h1 : crcByte (crcReg r x) c.toNat = crcByte (crcReg r x) d.toNat := crcReg_inj (crcByte_lt hx c.toNat_lt) (crcByte_lt hx d.toNat_lt) y h
  exact UInt8.toNat_inj.1 (crcByte_byte hx c.toNat_lt d.toNat_lt h1)

theorem crcMore0 {s : ByteArray} (h : ¬ 20000 < s.size) : crcMore 0 s = ((4294967295 - crcReg 4294967295 s.data.toList : Nat) : Int) := by
  rw [crcMore_yes (by omega)]
  exact crcOf_eq 0 s (by omega)
/-- A CRC goes on from text to text. -/
theorem crc_goes_on (t u : ByteArray) (h : ¬ 20000 < t.size + u.size) : crcMore (crcMore 0 t) u = crcMore 0 (t ++ u) := by
  have hl := crcReg_lt (r := 4294967295) (by omega) t.data.toList
  rw [crcMore0 (s := t) (by omega), crcMore0 (s := t ++ u) (by rw [ByteArray.size_append]; omega)]
  rw [crcMore_yes (by omega), crcOf_eq _ u (by omega), ByteArray.data_append, Array.toList_append, crcReg_append]
  rw [show 4294967295 - (4294967295 - crcReg 4294967295 t.data.toList) = crcReg 4294967295 t.data.toList by omega]
theorem four_inj {a b : Int} (ha : 0 ≤ a ∧ a ≤ 4294967295) (hb : 0 ≤ b ∧ b ≤ 4294967295) (h : four a = four b) : a = b := by
  unfold four at h
  simp only [List.cons.injEq, and_true] at h
  obtain ⟨h0, h1, h2, h3⟩ := h
  have e : ∀ {x y : Int}, 0 ≤ x → x < 256 → 0 ≤ y → y < 256 → UInt8.ofNat x.toNat = UInt8.ofNat y.toNat → x = y := fun hx hx' hy hy' he => by
    have := congrArg UInt8.toNat he
    rw [toNat_ofNat (by omega), toNat_ofNat (by omega)] at this
    omega
  have g0 := e (by omega) (by omega) (by omega) (by omega) h0
  have g1 := e (by omega) (by omega) (by omega) (by omega) h1
  have g2 := e (by omega) (by omega) (by omega) (by omega) h2
  have g3 := e (by omega) (by omega) (by omega) (by omega) h3
  omega

theorem seal_list {t : ByteArray} (h : ¬ 19996 < t.size) : (sealT t).data.toList = t.data.toList ++ four (crcMore 0 t) := by
  rw [sealT_small h, ByteArray.data_append, Array.toList_append]
theorem seal_size {t : ByteArray} (h : ¬ 19996 < t.size) : (sealT t).size = t.size + 4 := by
  rw [Lib.size_eq, seal_list h, List.length_append, ← Lib.size_eq]; rfl
/-- A sealed text comes back. -/
theorem seal_back {t : ByteArray} (h : ¬ 19996 < t.size) : uns (sealT t) = (t, 0) := by
  have hz := seal_size h
  have he : (sealT t).extract 0 ((sealT t).size - 4) = t := by
    apply ByteArray.ext
    apply Array.toList_inj.1
    rw [Lib.extract_data, seal_list h, hz, List.drop_zero, Nat.add_sub_cancel, Nat.sub_zero, Lib.size_eq, List.take_left]
  rw [uns_ok (by omega) (by omega) (by unfold sealed; rw [he]; exact beq_self_eq_true _), he]
/-- With one byte turned it is refused. -/
theorem seal_turned {t s' : ByteArray} (h : ¬ 19996 < t.size) (x y : List UInt8) (c d : UInt8) (hs : (sealT t).data.toList = x ++ c :: y) (hs' : s'.data.toList = x ++ d :: y) (hne : c ≠ d) : uns s' = (⟨#[]⟩, 5) := by
  have hz := seal_size h
  have hl := seal_list h
  have hz' : s'.size = t.size + 4 := by
    rw [← hz, Lib.size_eq, Lib.size_eq (sealT t), hs, hs', List.length_append, List.length_append]; rfl
  have hn : t.data.toList.length = t.size := (Lib.size_eq t).symm
  refine uns_sum (by omega) (by omega) ?_
  cases hq : sealed s' with
  | false => rfl
  | true =>
    exfalso
    rw [← sealed_tail (by omega) (by omega), ByteArray.toList_mk, beq_iff_eq, Lib.extract_toList, hs', hz', Nat.add_sub_cancel] at hq
    have hbd : (s'.extract 0 t.size).data.toList = (x ++ d :: y).take t.size := by
      rw [Lib.extract_data, hs', List.drop_zero, Nat.sub_zero]
    have hbz : ¬ 20000 < (s'.extract 0 t.size).size := by rw [ByteArray.size_extract]; omega
    have hE : t.data.toList ++ four (crcMore 0 t) = x ++ c :: y := hl.symm.trans hs
    have hxy : x.length + 1 + y.length = t.size + 4 := by
      have := congrArg List.length hE
      simp only [List.length_append, List.length_cons, hn] at this
      have h4 : (four (crcMore 0 t)).length = 4 := rfl
      omega
    rw [List.take_of_length_le (by simp only [List.length_drop, List.length_append, List.length_cons]; omega)] at hq
    by_cases hx : x.length < t.size
    · -- the byte lies in the text
      have e1 : (x ++ d :: y).drop t.size = four (crcMore 0 t) := by
        have e2 : (x ++ c :: y).drop t.size = four (crcMore 0 t) := by rw [← hE, ← hn, List.drop_left]
        rw [← e2, List.drop_append, List.drop_append, List.drop_of_length_le (by omega), show t.size - x.length = (t.size - x.length - 1) + 1 by omega]; rfl
      rw [e1] at hq
      have hc := four_inj (crcMore_range _) (crcMore_range _) hq
      rw [crcMore0 hbz, crcMore0 (s := t) (by omega), hbd] at hc
      have l1 := crcReg_lt (r := 4294967295) (by omega) ((x ++ d :: y).take t.size)
      have l2 := crcReg_lt (r := 4294967295) (by omega) t.data.toList
      have hreg : crcReg 4294967295 t.data.toList = crcReg 4294967295 ((x ++ d :: y).take t.size) := by omega
      have e3 : t.data.toList = x ++ c :: y.take (t.size - x.length - 1) := by
        have := congrArg (List.take t.size) hE
        rw [← hn, List.take_left, hn] at this
        rw [this, List.take_append, List.take_of_length_le (by omega)]
        congr 1
        rw [show t.size - x.length = (t.size - x.length - 1) + 1 by omega]; rfl
      have e4 : (x ++ d :: y).take t.size = x ++ d :: y.take (t.size - x.length - 1) := by
        rw [List.take_append, List.take_of_length_le (by omega)]
        congr 1
        rw [show t.size - x.length = (t.size - x.length - 1) + 1 by omega]; rfl
      rw [e3, e4] at hreg
      exact hne (crcReg_turned (by omega) _ _ _ _ hreg)
    · -- the byte lies in the sum
      have e1 : (x ++ d :: y).take t.size = t.data.toList := by
        have := congrArg (List.take t.size) hE
        rw [← hn, List.take_left, hn] at this
        rw [this, List.take_append_of_le_length (by omega), List.take_append_of_le_length (by omega)]
      have eb : s'.extract 0 t.size = t := by
        apply ByteArray.ext
        apply Array.toList_inj.1
        rw [hbd, e1]
      rw [eb] at hq
      have e2 : (x ++ c :: y).drop t.size = four (crcMore 0 t) := by rw [← hE, ← hn, List.drop_left]
      rw [← e2, List.drop_append_of_le_length (by omega), List.drop_append_of_le_length (by omega)] at hq
      have := List.append_cancel_left hq
      simp only [List.cons.injEq, and_true] at this
      exact hne this
end Go.Proofs.YtbmbcfnlpbbapaaDoor.M
