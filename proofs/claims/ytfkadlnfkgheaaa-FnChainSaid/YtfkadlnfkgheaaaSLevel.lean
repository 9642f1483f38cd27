/-
  What LevelAt of the specification does.
-/
import Derived.Test.YtfkadlnfkgheaaaLevMath
import Derived.Test.YtfkadlnfkgheaaaSIs
namespace Go.Proofs.Ytfkadlnfkgheaaa
open Go.RowKit

theorem M.hidl {p : Prop} (h : p) : Hid p := h
theorem M.half_step {h k m : Nat} (e : h * 2 ^ k = m) (he : h % 2 = 0) : Hid (h / 2 * 2 ^ (k + 1) = m) := by
  show _ = _
  rw [Nat.pow_succ, Nat.mul_comm (2 ^ k) 2, ← Nat.mul_assoc, Nat.div_mul_cancel (Nat.dvd_of_mod_eq_zero he)]; exact e

set_option maxRecDepth 100000 in
set_option maxHeartbeats 3200000 in
theorem sLevel_good (N J p : Nat) (w : World) (h1 : 1 ≤ N) (h2 : N ≤ 6) (hp : p = 2 ^ (N - 1)) (hJ : J ≤ 9223372036854775807) :
    Calls Try.prog 46 #[.int .i64 N, .int .i64 J] w fun e w' => e = .returned (.int .i64 (M.lev N (J % p))) ∧ w = w' := by
  have HI : Hid (∀ W, Calls Try.prog 36 #[.int .i64 N, .int .i64 1, .int .i64 6] W fun e w' => e = .returned (.bool true) ∧ W = w') := fun W => by
    have := sIs_any N 1 6 W
    rwa [decide_eq_true (show (1 : Int) ≤ N ∧ (N : Int) ≤ 6 by omega)] at this
  have hN : N = 1 ∨ N = 2 ∨ N = 3 ∨ N = 4 ∨ N = 5 ∨ N = 6 := by omega
  have hlt : J % p < p := Nat.mod_lt _ (by rw [hp]; exact Nat.pow_pos (by decide))
  have hp32 : p ≤ 32 := by rw [hp]; exact Nat.pow_le_pow_right (i := N - 1) (j := 5) (by decide) (by omega)
  obtain ⟨m, hm⟩ : ∃ m, m = J % p := ⟨_, rfl⟩
  by_cases h0 : m = 0
  · have FIN : Hid (M.lev N (J % p) = 0) := by show _ = _; rw [← hm, h0]; rfl
    have d0 := M.rem_zero (hm.symm.trans h0)
    clear hlt hp32 hm h0 m
    rcases hN with rfl | rfl | rfl | rfl | rfl | rfl <;> simp only [Nat.reduceSub, Nat.reducePow] at hp <;> subst hp <;> norm_cast at d0
    all_goals
      go_enter Try.func46, Try.ntmps46
      go_wp2_with (go_at_call 36; refine (HI.out _).mono ?_; rintro e w' ⟨rfl, rfl⟩)
      go_ret
      exact ⟨by rw [FIN.out]; rfl, rfl⟩
  have FIN : Hid (∀ {k h : Nat}, h * 2 ^ k = m → h % 2 = 1 → M.lev N (J % p) = (N : Int) - 1 - k) := fun {k h} e2 e3 => by
    rw [← hm, M.lev_pos h0, M.half_of e2 e3 (by omega)]
  have d0 := M.rem_pos (fun h => h0 (hm.trans h))
  have hmI : ((J : Int) % (p : Int)) = (m : Int) := by omega
  clear hlt hp32 hm
  rcases hN with rfl | rfl | rfl | rfl | rfl | rfl <;> simp only [Nat.reduceSub, Nat.reducePow] at hp <;> subst hp
  · omega
  all_goals
    norm_cast at d0 hmI
  · go_enter Try.func46, Try.ntmps46
    go_wp2_with (go_at_call 36; refine (HI.out _).mono ?_; rintro e w' ⟨rfl, rfl⟩)
    go_loop [5, 6] (fun x y => ∃ (k h : Nat), x = .int .i64 h ∧ y = .int .i64 (1 - (k : Int)) ∧ 0 < h ∧ h + k ≤ m ∧ Hid (h * 2 ^ k = m)) (fun x _ => (intOf x).toNat)
    case atStart => exact ⟨0, m, by rw [← hmI]; rfl, rfl, by omega, Nat.le_refl _, by show _ = _; simp⟩
    case round =>
      obtain ⟨k, h, rfl, rfl, hh, hhm, HK⟩ := hrel
      have hm32 : m < 32 := by omega
      by_cases ho : h % 2 = 1
      · have d1 : (((h : Int) % 2) == 0) = false := by simp; omega
        have HE : Hid (M.lev 2 (J % 2) = 1 - (k : Int)) := FIN.out HK.out ho
        clear hmI
        go_wp2
        go_ret
        exact ⟨by rw [HE.out]; rfl, rfl⟩
      · have d1 : (((h : Int) % 2) == 0) = true := by simp; omega
        have HK2 := M.half_step HK.out (by omega)
        clear hmI
        go_wp2
        go_round
        case rel => exact ⟨k + 1, h / 2, by go_num, by go_num, by omega, by omega, HK2⟩
        case measure => simp [intOf]; omega
  · go_enter Try.func46, Try.ntmps46
    go_wp2_with (go_at_call 36; refine (HI.out _).mono ?_; rintro e w' ⟨rfl, rfl⟩)
    go_loop [5, 6] (fun x y => ∃ (k h : Nat), x = .int .i64 h ∧ y = .int .i64 (2 - (k : Int)) ∧ 0 < h ∧ h + k ≤ m ∧ Hid (h * 2 ^ k = m)) (fun x _ => (intOf x).toNat)
    case atStart => exact ⟨0, m, by rw [← hmI]; rfl, rfl, by omega, Nat.le_refl _, by show _ = _; simp⟩
    case round =>
      obtain ⟨k, h, rfl, rfl, hh, hhm, HK⟩ := hrel
      have hm32 : m < 32 := by omega
      by_cases ho : h % 2 = 1
      · have d1 : (((h : Int) % 2) == 0) = false := by simp; omega
        have HE : Hid (M.lev 3 (J % 4) = 2 - (k : Int)) := FIN.out HK.out ho
        clear hmI
        go_wp2
        go_ret
        exact ⟨by rw [HE.out]; rfl, rfl⟩
      · have d1 : (((h : Int) % 2) == 0) = true := by simp; omega
        have HK2 := M.half_step HK.out (by omega)
        clear hmI
        go_wp2
        go_round
        case rel => exact ⟨k + 1, h / 2, by go_num, by go_num, by omega, by omega, HK2⟩
        case measure => simp [intOf]; omega
  · go_enter Try.func46, Try.ntmps46
    go_wp2_with (go_at_call 36; refine (HI.out _).mono ?_; rintro e w' ⟨rfl, rfl⟩)
    go_loop [5, 6] (fun x y => ∃ (k h : Nat), x = .int .i64 h ∧ y = .int .i64 (3 - (k : Int)) ∧ 0 < h ∧ h + k ≤ m ∧ Hid (h * 2 ^ k = m)) (fun x _ => (intOf x).toNat)
    case atStart => exact ⟨0, m, by rw [← hmI]; rfl, rfl, by omega, Nat.le_refl _, by show _ = _; simp⟩
    case round =>
      obtain ⟨k, h, rfl, rfl, hh, hhm, HK⟩ := hrel
      have hm32 : m < 32 := by omega
      by_cases ho : h % 2 = 1
      · have d1 : (((h : Int) % 2) == 0) = false := by simp; omega
        have HE : Hid (M.lev 4 (J % 8) = 3 - (k : Int)) := FIN.out HK.out ho
        clear hmI
        go_wp2
        go_ret
        exact ⟨by rw [HE.out]; rfl, rfl⟩
      · have d1 : (((h : Int) % 2) == 0) = true := by simp; omega
        have HK2 := M.half_step HK.out (by omega)
        clear hmI
        go_wp2
        go_round
        case rel => exact ⟨k + 1, h / 2, by go_num, by go_num, by omega, by omega, HK2⟩
        case measure => simp [intOf]; omega
  · go_enter Try.func46, Try.ntmps46
    go_wp2_with (go_at_call 36; refine (HI.out _).mono ?_; rintro e w' ⟨rfl, rfl⟩)
    go_loop [5, 6] (fun x y => ∃ (k h : Nat), x = .int .i64 h ∧ y = .int .i64 (4 - (k : Int)) ∧ 0 < h ∧ h + k ≤ m ∧ Hid (h * 2 ^ k = m)) (fun x _ => (intOf x).toNat)
    case atStart => exact ⟨0, m, by rw [← hmI]; rfl, rfl, by omega, Nat.le_refl _, by show _ = _; simp⟩
    case round =>
      obtain ⟨k, h, rfl, rfl, hh, hhm, HK⟩ := hrel
      have hm32 : m < 32 := by omega
      by_cases ho : h % 2 = 1
      · have d1 : (((h : Int) % 2) == 0) = false := by simp; omega
        have HE : Hid (M.lev 5 (J % 16) = 4 - (k : Int)) := FIN.out HK.out ho
        clear hmI
        go_wp2
        go_ret
        exact ⟨by rw [HE.out]; rfl, rfl⟩
      · have d1 : (((h : Int) % 2) == 0) = true := by simp; omega
        have HK2 := M.half_step HK.out (by omega)
        clear hmI
        go_wp2
        go_round
        case rel => exact ⟨k + 1, h / 2, by go_num, by go_num, by omega, by omega, HK2⟩
        case measure => simp [intOf]; omega
  · go_enter Try.func46, Try.ntmps46
    go_wp2_with (go_at_call 36; refine (HI.out _).mono ?_; rintro e w' ⟨rfl, rfl⟩)
    go_loop [5, 6] (fun x y => ∃ (k h : Nat), x = .int .i64 h ∧ y = .int .i64 (5 - (k : Int)) ∧ 0 < h ∧ h + k ≤ m ∧ Hid (h * 2 ^ k = m)) (fun x _ => (intOf x).toNat)
    case atStart => exact ⟨0, m, by rw [← hmI]; rfl, rfl, by omega, Nat.le_refl _, by show _ = _; simp⟩
    case round =>
      obtain ⟨k, h, rfl, rfl, hh, hhm, HK⟩ := hrel
      have hm32 : m < 32 := by omega
      by_cases ho : h % 2 = 1
      · have d1 : (((h : Int) % 2) == 0) = false := by simp; omega
        have HE : Hid (M.lev 6 (J % 32) = 5 - (k : Int)) := FIN.out HK.out ho
        clear hmI
        go_wp2
        go_ret
        exact ⟨by rw [HE.out]; rfl, rfl⟩
      · have d1 : (((h : Int) % 2) == 0) = true := by simp; omega
        have HK2 := M.half_step HK.out (by omega)
        clear hmI
        go_wp2
        go_round
        case rel => exact ⟨k + 1, h / 2, by go_num, by go_num, by omega, by omega, HK2⟩
        case measure => simp [intOf]; omega

set_option maxHeartbeats 800000 in
theorem sLevel_any (n j : Int) (w : World) (h1 : -9223372036854775808 ≤ n) (h2 : n ≤ 9223372036854775807) (h3 : -9223372036854775808 ≤ j) (h4 : j ≤ 9223372036854775807) :
    Calls Try.prog 46 #[.int .i64 n, .int .i64 j] w fun e w' => e = .returned (.int .i64 (M.level n j)) ∧ w = w' := by
  by_cases hb : n < 1 ∨ 6 < n ∨ j < 0
  · rw [M.level_bad hb]
    by_cases hn : 1 ≤ n ∧ n ≤ 6
    · have HI : Hid (∀ W, Calls Try.prog 36 #[.int .i64 n, .int .i64 1, .int .i64 6] W fun e w' => e = .returned (.bool true) ∧ W = w') := fun W => by
        have := sIs_any n 1 6 W
        rwa [decide_eq_true hn] at this
      have hj : decide (j < 0) = true := decide_eq_true (by omega)
      go_enter Try.func46, Try.ntmps46
      go_wp2_with (go_at_call 36; refine (HI.out _).mono ?_; rintro e w' ⟨rfl, rfl⟩)
      go_ret
      exact ⟨rfl, rfl⟩
    · have HI : Hid (∀ W, Calls Try.prog 36 #[.int .i64 n, .int .i64 1, .int .i64 6] W fun e w' => e = .returned (.bool false) ∧ W = w') := fun W => by
        have := sIs_any n 1 6 W
        rwa [decide_eq_false hn] at this
      go_enter Try.func46, Try.ntmps46
      go_wp2_with (go_at_call 36; refine (HI.out _).mono ?_; rintro e w' ⟨rfl, rfl⟩)
      go_ret
      exact ⟨rfl, rfl⟩
  · obtain ⟨N, rfl⟩ := Int.eq_ofNat_of_zero_le (show 0 ≤ n by omega)
    obtain ⟨J, rfl⟩ := Int.eq_ofNat_of_zero_le (show 0 ≤ j by omega)
    rw [M.level_at (by omega) (by omega) rfl]
    exact sLevel_good N J _ w (by omega) (by omega) rfl (by omega)
end Go.Proofs.Ytfkadlnfkgheaaa
