/-
  What the CRC functions of the program and of the specification do.
-/
import Derived.Test.YtcoppfmigpdglabRows
import Derived.Test.YtcoppfmigpdglabCrcMath
import Derived.WalkKit
import Derived.WalkSpells
import Derived.WalkLawsBesides
namespace Go.Proofs.Ytcoppfmigpdglab
open Go.RowKit

set_option maxRecDepth 100000 in
set_option maxHeartbeats 800000 in
theorem crcByte_any (r b : Nat) (w : World) (hr : r < 4294967296) (hb : b < 256) :
    Calls Try.prog 119 #[.int .u32 r, .int .u8 b] w fun e w' => e = .returned (.int .u32 (M.crcByte r b)) ∧ w = w' := by
  go_enter Try.func119, Try.ntmps119
  go_wp2
  go_loop [0, 5] (fun g i => ∃ (k x : Nat), k ≤ 8 ∧ i = .int .i64 k ∧ g = .int .u32 x ∧ x < 4294967296 ∧ Hid (x ^^^ (b / 2 ^ k) = M.crcSteps k (r ^^^ b))) (fun _ i => 8 - (intOf i).toNat)
  case atStart => exact ⟨0, r, by omega, rfl, rfl, hr, by show _ = _; simp [M.crcSteps]⟩
  case round =>
    obtain ⟨k, x, hk, rfl, rfl, hx, HE⟩ := hrel
    by_cases hlt : k < 8
    · have hy : b / 2 ^ k < 4294967296 := Nat.lt_of_le_of_lt (Nat.div_le_self _ _) (by omega)
      have hT : Hid (bits .and .u32 (bits .xor .u32 (x : Int) ((b : Int) / 2 ^ k)) 1 = (((x ^^^ b / 2 ^ k) % 2 : Nat) : Int)) := by
        show _ = _
        rw [M.cast_pow]; exact M.bits_test hx hy
      have hP : Hid (bits .xor .u32 ((x : Int) / 2) 3988292384 = ((x / 2 ^^^ 3988292384 : Nat) : Int)) := M.bits_taps hx
      clear hy
      go_wp2
      · have ht : (bits .and .u32 (bits .xor .u32 (x : Int) ((b : Int) / 2 ^ k)) 1 == 1) = true := by assumption
        rw [hT.out] at ht
        have h1 : (x ^^^ b / 2 ^ k) % 2 = 1 := by have := beq_iff_eq.1 ht; omega
        go_round
        case rel => exact ⟨k + 1, x / 2 ^^^ 3988292384, by omega, by go_num, by rw [hP.out], M.xor_lt (by omega) (by decide), by show _ = _; rw [← M.div_pow_succ]; exact M.iStep_odd HE.out h1⟩
        case measure => simp [intOf]; omega
      · have ht : (bits .and .u32 (bits .xor .u32 (x : Int) ((b : Int) / 2 ^ k)) 1 == 1) = false := by assumption
        rw [hT.out] at ht
        have h1 : ¬ (x ^^^ b / 2 ^ k) % 2 = 1 := by have := beq_eq_false_iff_ne.1 ht; omega
        go_round
        case rel => exact ⟨k + 1, x / 2, by omega, by go_num, by go_num, by omega, by show _ = _; rw [← M.div_pow_succ]; exact M.iStep_even HE.out h1⟩
        case measure => simp [intOf]; omega
    · obtain rfl : k = 8 := by omega
      have hE : Hid (M.crcByte r b = x) := by
        have := HE.out
        rw [show b / 2 ^ 8 = 0 by omega, Nat.xor_zero] at this
        exact this.symm
      clear HE
      go_wp2
      go_ret
      exact ⟨by rw [hE.out]; rfl, rfl⟩

set_option maxRecDepth 100000 in
set_option maxHeartbeats 800000 in
theorem iCrcMore_in (crc : Nat) (s : ByteArray) (w : World) (hc : crc < 4294967296) (hs : s.size ≤ 20000) :
    Calls Try.prog 113 #[.int .i64 crc, .string s] w fun e w' => e = .returned (.int .i64 (M.crcOf crc s)) ∧ w = w' := by
  have d1 : decide ((20000 : Int) < (s.size : Int)) = false := decide_eq_false (by omega)
  have d2 : decide ((crc : Int) < 0) = false := decide_eq_false (by omega)
  have d3 : decide ((4294967295 : Int) < (crc : Int)) = false := decide_eq_false (by omega)
  have hF : Hid (bits .xor .u32 IntKind.u32.max (crc : Int) = ((4294967295 - crc : Nat) : Int)) := M.bits_flip' hc
  have hO : Hid (M.crcOf (crc : Int) s = ((4294967295 - M.crcReg (4294967295 - crc) s.data.toList : Nat) : Int)) := M.crcOf_eq crc s hc
  go_enter Try.func113, Try.ntmps113
  go_wp2
  go_loop [5, 6] (fun g i => ∃ (k x : Nat), k ≤ s.size ∧ i = .int .i64 k ∧ g = .int .u32 x ∧ x < 4294967296 ∧ Hid (x = M.crcReg (4294967295 - crc) (s.data.toList.take k))) (fun _ i => s.size - (intOf i).toNat)
  case atStart => exact ⟨0, 4294967295 - crc, Nat.zero_le _, rfl, by rw [hF.out], by omega, rfl⟩
  case round =>
    obtain ⟨k, x, hk, rfl, rfl, hx, HE⟩ := hrel
    by_cases hlt : k < s.size
    · have hb : (s[k]'hlt).toNat < 256 := (s[k]'hlt).toNat_lt
      have H2 : Hid (M.crcByte x (s[k]'hlt).toNat = M.crcReg (4294967295 - crc) (s.data.toList.take (k + 1))) := by
        show _ = _
        rw [M.take_snoc s k hlt, M.crcReg_snoc, ← HE.out]
      have hl := M.crcByte_lt hx hb
      have HL : Hid (M.crcByte x (s[k]'hlt).toNat < 4294967296) := hl
      clear HE hl
      go_wp2_with (go_at_call 119; refine (crcByte_any _ _ _ hx hb).mono ?_; rintro e w' ⟨rfl, rfl⟩)
      go_round
      case rel => exact ⟨k + 1, M.crcByte x (s[k]'hlt).toNat, by omega, by go_num, rfl, HL.out, H2⟩
      case measure => simp [intOf]; omega
    · obtain rfl : k = s.size := by omega
      have hG : Hid (bits .xor .u32 IntKind.u32.max (x : Int) = ((4294967295 - x : Nat) : Int)) := M.bits_flip' hx
      have hE : Hid (M.crcOf (crc : Int) s = ((4294967295 - x : Nat) : Int)) := by
        show _ = _
        rw [hO.out, HE.out, M.take_all]
      have hg1 : 0 ≤ bits .xor .u32 IntKind.u32.max (x : Int) := by rw [hG.out]; omega
      have hg2 : bits .xor .u32 IntKind.u32.max (x : Int) ≤ 4294967295 := by rw [hG.out]; omega
      clear HE
      go_wp2
      go_ret
      exact ⟨by rw [hE.out, ← hG.out]; rfl, rfl⟩

set_option maxRecDepth 100000 in
set_option maxHeartbeats 1600000 in
theorem sCrc_in (crc : Nat) (s : ByteArray) (w : World) (hc : crc < 4294967296) (hs : s.size ≤ 20000) :
    Calls Try.prog 90 #[.int .i64 crc, .string s] w fun e w' => e = .returned (.int .i64 (M.crcOf crc s)) ∧ w = w' := by
  have hF : Hid (bits .xor .u32 (crc : Int) 4294967295 = ((4294967295 - crc : Nat) : Int)) := M.bits_flip hc
  have hO : Hid (M.crcOf (crc : Int) s = ((4294967295 - M.crcReg (4294967295 - crc) s.data.toList : Nat) : Int)) := M.crcOf_eq crc s hc
  go_enter Try.func90, Try.ntmps90
  go_wp2
  go_loop [5, 6] (fun g i => ∃ (k x : Nat), k ≤ s.size ∧ i = .int .i64 k ∧ g = .int .u32 x ∧ x < 4294967296 ∧ Hid (x = M.crcReg (4294967295 - crc) (s.data.toList.take k))) (fun _ i => s.size - (intOf i).toNat)
  case atStart => exact ⟨0, 4294967295 - crc, Nat.zero_le _, rfl, by rw [hF.out], by omega, rfl⟩
  case round =>
    obtain ⟨k, x, hk, rfl, rfl, hx, HE⟩ := hrel
    by_cases hlt : k < s.size
    · have hb : (s[k]'hlt).toNat < 256 := (s[k]'hlt).toNat_lt
      have H2 : Hid (M.crcSteps 8 (x ^^^ (s[k]'hlt).toNat) = M.crcReg (4294967295 - crc) (s.data.toList.take (k + 1))) := by
        show _ = _
        rw [M.take_snoc s k hlt, M.crcReg_snoc, ← HE.out]; rfl
      have hX : Hid (bits .xor .u32 (x : Int) ((s[k]'hlt).toNat : Int) = ((x ^^^ (s[k]'hlt).toNat : Nat) : Int)) := u32_xor_nat x _ hx (by omega)
      have HL : Hid (x ^^^ (s[k]'hlt).toNat < 4294967296) := M.xor_lt hx (by omega)
      obtain ⟨y, HY⟩ : ∃ y, Hid (y = x ^^^ (s[k]'hlt).toNat) := ⟨_, rfl⟩
      rw [← HY.out] at H2 HL
      clear HE
      go_wp2
      go_loop [5, 7] (fun g i => ∃ (j z : Nat), j ≤ 8 ∧ i = .int .i64 j ∧ g = .int .u32 z ∧ z < 4294967296 ∧ Hid (z = M.crcSteps j y)) (fun _ i => 8 - (intOf i).toNat)
      case atStart => exact ⟨0, y, Nat.zero_le _, rfl, by rw [hX.out, HY.out], HL.out, rfl⟩
      case round =>
        obtain ⟨j, z, hj, rfl, rfl, hz, HZ⟩ := hrel
        by_cases hj8 : j < 8
        · have hT : Hid (bits .and .u32 (z : Int) 1 = ((z % 2 : Nat) : Int)) := M.bits_odd hz
          have hP : Hid (bits .xor .u32 ((z : Int) / 2) 3988292384 = ((z / 2 ^^^ 3988292384 : Nat) : Int)) := M.bits_taps hz
          go_wp2
          · have ht : (bits .and .u32 (z : Int) 1 == 1) = true := by assumption
            rw [hT.out] at ht
            have h1 : z % 2 = 1 := by have := beq_iff_eq.1 ht; omega
            go_round
            case rel => exact ⟨j + 1, z / 2 ^^^ 3988292384, by omega, by go_num, by rw [hP.out], M.xor_lt (by omega) (by decide), by show _ = M.crcStep (M.crcSteps j y); rw [← HZ.out, M.crcStep_odd h1]⟩
            case measure => simp [intOf]; omega
          · have ht : (bits .and .u32 (z : Int) 1 == 1) = false := by assumption
            rw [hT.out] at ht
            have h1 : ¬ z % 2 = 1 := by have := beq_eq_false_iff_ne.1 ht; omega
            go_round
            case rel => exact ⟨j + 1, z / 2, by omega, by go_num, by go_num, by omega, by show _ = M.crcStep (M.crcSteps j y); rw [← HZ.out, M.crcStep_even h1]⟩
            case measure => simp [intOf]; omega
        · obtain rfl : j = 8 := by omega
          go_wp2
          go_round
          case rel => exact ⟨k + 1, z, by omega, by go_num, rfl, hz, by show _ = _; rw [HZ.out]; exact H2.out⟩
          case measure => simp [intOf]; omega
    · obtain rfl : k = s.size := by omega
      have hG : Hid (bits .xor .u32 (x : Int) 4294967295 = ((4294967295 - x : Nat) : Int)) := M.bits_flip hx
      have hE : Hid (M.crcOf (crc : Int) s = ((4294967295 - x : Nat) : Int)) := by
        show _ = _
        rw [hO.out, HE.out, M.take_all]
      have hg1 : 0 ≤ bits .xor .u32 (x : Int) 4294967295 := by rw [hG.out]; omega
      have hg2 : bits .xor .u32 (x : Int) 4294967295 ≤ 4294967295 := by rw [hG.out]; omega
      clear HE
      go_wp2
      go_ret
      exact ⟨by rw [hE.out, ← hG.out]; rfl, rfl⟩

set_option maxRecDepth 100000 in
set_option maxHeartbeats 800000 in
theorem iCrcMore_any (crc : Int) (s : ByteArray) (w : World) (h1 : -9223372036854775808 ≤ crc) (h2 : crc ≤ 9223372036854775807) (hs : s.size ≤ maxLen) :
    Calls Try.prog 113 #[.int .i64 crc, .string s] w fun e w' => e = .returned (.int .i64 (M.crcMore crc s)) ∧ w = w' := by
  unfold maxLen at hs
  by_cases ha : 20000 < s.size
  · have hE : Hid (M.crcMore crc s = 0) := M.crcMore_no (.inl ha)
    have d1 : decide ((20000 : Int) < (s.size : Int)) = true := decide_eq_true (by omega)
    go_enter Try.func113, Try.ntmps113
    go_wp2
    go_ret
    exact ⟨by rw [hE.out]; rfl, rfl⟩
  by_cases hb : crc < 0
  · have hE : Hid (M.crcMore crc s = 0) := M.crcMore_no (.inr (.inl hb))
    have d1 : decide ((20000 : Int) < (s.size : Int)) = false := decide_eq_false (by omega)
    have d2 : decide (crc < 0) = true := decide_eq_true (by omega)
    go_enter Try.func113, Try.ntmps113
    go_wp2
    go_ret
    exact ⟨by rw [hE.out]; rfl, rfl⟩
  by_cases hc : 4294967295 < crc
  · have hE : Hid (M.crcMore crc s = 0) := M.crcMore_no (.inr (.inr hc))
    have d1 : decide ((20000 : Int) < (s.size : Int)) = false := decide_eq_false (by omega)
    have d2 : decide (crc < 0) = false := decide_eq_false (by omega)
    have d3 : decide (4294967295 < crc) = true := decide_eq_true (by omega)
    go_enter Try.func113, Try.ntmps113
    go_wp2
    go_ret
    exact ⟨by rw [hE.out]; rfl, rfl⟩
  obtain ⟨c, rfl⟩ := Int.eq_ofNat_of_zero_le (show 0 ≤ crc by omega)
  rw [M.crcMore_yes (by omega)]
  exact iCrcMore_in c s w (by omega) (by omega)

set_option maxHeartbeats 400000 in
theorem iCrc_any (s : ByteArray) (w : World) (hs : s.size ≤ maxLen) :
    Calls Try.prog 103 #[.string s] w fun e w' => e = .returned (.int .i64 (M.crcMore 0 s)) ∧ w = w' := by
  go_enter Try.func103, Try.ntmps103
  go_wp2_with (go_at_call 113; refine (iCrcMore_any 0 s _ (by omega) (by omega) hs).mono ?_; rintro e w' ⟨rfl, rfl⟩)
  go_ret
  exact ⟨rfl, rfl⟩

end Go.Proofs.Ytcoppfmigpdglab
