/-
  What GetNum of the specification does.
-/
import Derived.Test.YtpokcbcffijheaaPart2
namespace Go.Proofs.Ytpokcbcffijheaa
open Go.RowKit


/-- GetNum's answer inside the limits. -/
def M.numOut (r : Nat × Nat × Nat) (n : Nat) : Value := .agg #[.int .i64 (if r.1 = 0 then M.unZ r.2.1 else 0), .int .i64 (if r.1 = 0 then (n : Int) + r.2.2 else 0), .int .i64 r.1]
theorem M.numOut_no {r : Nat × Nat × Nat} {c n : Nat} (h : r = (c, 0, 0)) (hc : ¬ c = 0) : M.numOut r n = .agg #[.int .i64 0, .int .i64 0, .int .i64 c] := by
  subst h; simp only [M.numOut, hc, if_false]
theorem M.numOut_yes {r : Nat × Nat × Nat} {u k n : Nat} (h : r = (0, u, k)) : M.numOut r n = .agg #[.int .i64 (M.unZ u), .int .i64 ((n : Int) + k), .int .i64 0] := by
  subst h; simp only [M.numOut, if_true]; rfl

set_option maxRecDepth 100000 in
set_option maxHeartbeats 1600000 in
theorem sGetNum_in (s : ByteArray) (n : Nat) (w : World) (hs : ¬ 20000 < s.size) (h2 : (n : Int) ≤ 9223372036854775807) :
    Calls Try.prog 84 #[.string s, .int .i64 n] w fun e w' => e = .returned (M.numOut (M.rd 0 0 (s.data.toList.drop n)) n) ∧ Below w.heap.size w w' := by
  go_enter Try.func84, Try.ntmps84
  go_wp2
  go_loop [5, 6] (fun g k => ∃ (i u : Nat), i ≤ 9 ∧ g = .int .u64 u ∧ k = .int .i64 i ∧ Hid (u < 2 ^ (7 * i)) ∧ (i ≠ 0 → n + i ≤ s.size) ∧ Hid (M.rd i u (s.data.toList.drop (n + i)) = M.rd 0 0 (s.data.toList.drop n))) (fun _ k => 10 - (intOf k).toNat)
  case atStart => exact ⟨0, 0, by omega, rfl, rfl, show 0 < _ by decide, fun h => absurd rfl h, rfl⟩
  case round =>
    obtain ⟨i, u, hi, rfl, rfl, hu, hni, HR⟩ := hrel
    by_cases hlt : n + i < s.size
    · have hd := M.drop_cons s (n + i) hlt
      have dlt : decide ((s.size : Int) - (i : Int) ≤ (n : Int)) = false := decide_eq_false (by omega)
      have hc9 : ((s[n + i]'hlt).toNat : Int) ≤ 255 := by have := (s[n + i]'hlt).toNat_lt; omega
      by_cases h9 : i = 9 ∧ 1 < (s[n + i]'hlt).toNat
      · have H2 : Hid (M.numOut (M.rd 0 0 (s.data.toList.drop n)) n = .agg #[.int .i64 0, .int .i64 0, .int .i64 (3 : Nat)]) := by show _ = _; exact M.numOut_no (by rw [← HR.out, hd, M.rd_ten h9.1 h9.2]) (by decide)
        have d9 : ((i : Int) == 9) = true := beq_iff_eq.2 (by omega)
        have d1 : decide ((1 : Int) < ((s[n + i]'hlt).toNat : Int)) = true := decide_eq_true (by omega)
        clear HR hu hd h9
        go_wp2
        exact bodyPost_ret (v := .agg #[.int .i64 0, .int .i64 0, .int .i64 3]) (by simp [results, Try.results84, go_sem]) rfl ⟨by rw [H2.out]; rfl, (Below.refl _ _).alloc (Nat.le_refl _) _⟩
      · have H9 : Hid (¬ (i = 9 ∧ 1 < (s[n + i]'hlt).toNat)) := h9
        have HD : Hid (s.data.toList.drop (n + i) = s[n + i] :: s.data.toList.drop (n + i + 1)) := hd
        have hrg : i < 9 ∨ (9 ≤ i ∧ (s[n + i]'hlt).toNat ≤ 1) := by omega
        obtain ⟨V, HV⟩ : ∃ V : Nat, Hid (V = u + ((s[n + i]'hlt).toNat % 128) * 2 ^ (7 * i)) := ⟨_, rfl⟩
        have hw : IntKind.u64.wrap ((u : Int) + IntKind.u64.wrap (((s[n + i]'hlt).toNat : Int) % 128 * 2 ^ (7 * i))) = (V : Int) := by
          rw [M.add_wrap hu.out hi (by omega), HV.out]
        have hV : (V : Int) ≤ 18446744073709551615 := by have := M.sum_lt (u := u) (c := (s[n + i]'hlt).toNat) hu.out hi (by omega); have := HV.out; omega
        clear hd h9
        by_cases hb : (s[n + i]'hlt).toNat < 128
        · have H2 : Hid (M.rd 0 0 (s.data.toList.drop n) = if (s[n + i]'hlt).toNat = 0 ∧ i ≠ 0 then (3, 0, 0) else (0, V, i + 1)) := by show _ = _; rw [← HR.out, HD.out, M.rd_last' H9.out hb, HV.out]
          have hd9 : Hid (((i : Int) == 9) = decide (9 ≤ i)) := by
            show _ = _
            by_cases h : 9 ≤ i
            · rw [decide_eq_true h]; exact beq_iff_eq.2 (by omega)
            · rw [decide_eq_false h]; exact beq_eq_false_iff_ne.2 (by omega)
          clear HR hu HV HD H9
          by_cases hz : (s[n + i]'hlt).toNat = 0 ∧ i ≠ 0
          · have H3 : Hid (M.numOut (M.rd 0 0 (s.data.toList.drop n)) n = .agg #[.int .i64 0, .int .i64 0, .int .i64 (3 : Nat)]) := M.numOut_no (by rw [H2.out, if_pos hz]) (by decide)
            have z0 : (((s[n + i]'hlt).toNat : Int) == 0) = true := beq_iff_eq.2 (by omega)
            have z1 : decide (0 < i) = true := decide_eq_true (by omega)
            have z2 : 0 < i := by omega
            rcases hrg with h9 | ⟨h9, h10⟩
            · have d9 : ((i : Int) == 9) = false := beq_eq_false_iff_ne.2 (by omega)
              clear H2 hd9 hz
              go_wp2
              exact bodyPost_ret (v := .agg #[.int .i64 0, .int .i64 0, .int .i64 3]) (by simp [results, Try.results84, go_sem]) rfl ⟨by rw [H3.out]; rfl, (Below.refl _ _).alloc (Nat.le_refl _) _⟩
            · have d9 : ((i : Int) == 9) = true := beq_iff_eq.2 (by omega)
              have d1 : decide ((1 : Int) < ((s[n + i]'hlt).toNat : Int)) = false := decide_eq_false (by omega)
              clear H2 hd9 hz
              go_wp2
              exact bodyPost_ret (v := .agg #[.int .i64 0, .int .i64 0, .int .i64 3]) (by simp [results, Try.results84, go_sem]) rfl ⟨by rw [H3.out]; rfl, (Below.refl _ _).alloc (Nat.le_refl _) _⟩
          · have H3 : Hid (M.numOut (M.rd 0 0 (s.data.toList.drop n)) n = .agg #[.int .i64 (M.unZ V), .int .i64 ((n : Int) + ((i + 1 : Nat) : Int)), .int .i64 0]) := M.numOut_yes (by rw [H2.out, if_neg hz])
            by_cases ho : V % 2 = 1
            · rcases (show ((s[n + i]'hlt).toNat ≠ 0 ∧ i < 9) ∨ ((s[n + i]'hlt).toNat ≠ 0 ∧ 9 ≤ i) ∨ ((s[n + i]'hlt).toNat = 0 ∧ i < 9) by omega) with ⟨c0, h9⟩ | ⟨c0, h9⟩ | ⟨c0, h9⟩
              all_goals
                first | (have z0 : (((s[n + i]'hlt).toNat : Int) == 0) = true := beq_iff_eq.2 (by omega)) | (have z0 : (((s[n + i]'hlt).toNat : Int) == 0) = false := beq_eq_false_iff_ne.2 (by omega))
                first | (have z1 : decide (0 < i) = true := decide_eq_true (by omega)) | (have z1 : decide (0 < i) = false := decide_eq_false (by omega)) | skip
                first | (have d9 : ((i : Int) == 9) = true := beq_iff_eq.2 (by omega)) | (have d9 : ((i : Int) == 9) = false := beq_eq_false_iff_ne.2 (by omega))
                first | (have d1 : decide ((1 : Int) < ((s[n + i]'hlt).toNat : Int)) = true := decide_eq_true (by omega)) | (have d1 : decide ((1 : Int) < ((s[n + i]'hlt).toNat : Int)) = false := decide_eq_false (by omega)) | skip
                have o1 : ((V : Int) % 2 == 1) = true := beq_iff_eq.2 (by omega)
                have HU : Hid (M.unZ V = -((V : Int) / 2) - 1) := M.unZ_odd ho
                have HA : Hid ((n : Int) + ((i + 1 : Nat) : Int) = (n : Int) + (i : Int) + 1) := by show _ = _; omega
                rw [HU.out, HA.out] at H3
                clear H2 hd9 hz c0 ho hrg
                go_wp2
                exact bodyPost_ret (v := .agg #[.int .i64 (-((V : Int) / 2) - 1), .int .i64 ((n : Int) + (i : Int) + 1), .int .i64 0]) (by simp [results, Try.results84, go_sem]) rfl ⟨by rw [H3.out], (Below.refl _ _).alloc (Nat.le_refl _) _⟩
            · rcases (show ((s[n + i]'hlt).toNat ≠ 0 ∧ i < 9) ∨ ((s[n + i]'hlt).toNat ≠ 0 ∧ 9 ≤ i) ∨ ((s[n + i]'hlt).toNat = 0 ∧ i < 9) by omega) with ⟨c0, h9⟩ | ⟨c0, h9⟩ | ⟨c0, h9⟩
              all_goals
                first | (have z0 : (((s[n + i]'hlt).toNat : Int) == 0) = true := beq_iff_eq.2 (by omega)) | (have z0 : (((s[n + i]'hlt).toNat : Int) == 0) = false := beq_eq_false_iff_ne.2 (by omega))
                first | (have z1 : decide (0 < i) = true := decide_eq_true (by omega)) | (have z1 : decide (0 < i) = false := decide_eq_false (by omega)) | skip
                first | (have d9 : ((i : Int) == 9) = true := beq_iff_eq.2 (by omega)) | (have d9 : ((i : Int) == 9) = false := beq_eq_false_iff_ne.2 (by omega))
                first | (have d1 : decide ((1 : Int) < ((s[n + i]'hlt).toNat : Int)) = true := decide_eq_true (by omega)) | (have d1 : decide ((1 : Int) < ((s[n + i]'hlt).toNat : Int)) = false := decide_eq_false (by omega)) | skip
                have o1 : ((V : Int) % 2 == 1) = false := beq_eq_false_iff_ne.2 (by omega)
                have HU : Hid (M.unZ V = (V : Int) / 2) := M.unZ_even (by omega)
                have HA : Hid ((n : Int) + ((i + 1 : Nat) : Int) = (n : Int) + (i : Int) + 1) := by show _ = _; omega
                rw [HU.out, HA.out] at H3
                clear H2 hd9 hz c0 ho hrg
                go_wp2
                exact bodyPost_ret (v := .agg #[.int .i64 ((V : Int) / 2), .int .i64 ((n : Int) + (i : Int) + 1), .int .i64 0]) (by simp [results, Try.results84, go_sem]) rfl ⟨by rw [H3.out], (Below.refl _ _).alloc (Nat.le_refl _) _⟩
        · have h9 : i < 9 := by omega
          have d9 : ((i : Int) == 9) = false := beq_eq_false_iff_ne.2 (by omega)
          have H2 : Hid (M.rd (i + 1) V (s.data.toList.drop (n + (i + 1))) = M.rd 0 0 (s.data.toList.drop n)) := by show _ = _; rw [← HR.out, HD.out, M.rd_more (by omega) hb, HV.out]; rfl
          have HL : Hid (V < 2 ^ (7 * (i + 1))) := by show _ < _; rw [HV.out]; exact M.low_next hu.out (Nat.mod_lt _ (by decide))
          clear hrg HR hu HV HD H9
          go_wp2
          go_round
          case rel => exact ⟨i + 1, V, by omega, rfl, by go_num, HL, fun _ => by omega, H2⟩
          case measure => simp [intOf]; omega
    · have H2 : Hid (M.numOut (M.rd 0 0 (s.data.toList.drop n)) n = .agg #[.int .i64 0, .int .i64 0, .int .i64 (4 : Nat)]) := M.numOut_no (by rw [← HR.out, M.drop_nil s _ hlt, M.rd_nil]) (by decide)
      have dlt : decide ((s.size : Int) - (i : Int) ≤ (n : Int)) = true := decide_eq_true (by omega)
      clear HR hu
      go_wp2
      exact bodyPost_ret (v := .agg #[.int .i64 0, .int .i64 0, .int .i64 4]) (by simp [results, Try.results84, go_sem]) rfl ⟨by rw [H2.out]; rfl, (Below.refl _ _).alloc (Nat.le_refl _) _⟩

set_option maxRecDepth 100000 in
set_option maxHeartbeats 800000 in
theorem sGetNum_any (s : ByteArray) (n : Int) (w : World) (hs : s.size ≤ maxLen) (h1 : -9223372036854775808 ≤ n) (h2 : n ≤ 9223372036854775807) :
    Calls Try.prog 84 #[.string s, .int .i64 n] w fun e w' => e = .returned (.agg #[.int .i64 (M.num3 s n).1, .int .i64 (M.num3 s n).2.1, .int .i64 (M.num3 s n).2.2]) ∧ Below w.heap.size w w' := by
  have hs' := hs
  unfold maxLen at hs'
  by_cases h : 20000 < s.size
  · rw [M.num3_size h]
    go_enter Try.func84, Try.ntmps84
    go_wp2
    exact bodyPost_ret (v := .agg #[.int .i64 0, .int .i64 0, .int .i64 2]) (by simp [results, Try.results84, go_sem]) rfl ⟨rfl, (Below.refl _ _).alloc (Nat.le_refl _) _⟩
  by_cases h0 : n < 0
  · rw [M.num3_form h h0]
    go_enter Try.func84, Try.ntmps84
    go_wp2
    exact bodyPost_ret (v := .agg #[.int .i64 0, .int .i64 0, .int .i64 1]) (by simp [results, Try.results84, go_sem]) rfl ⟨rfl, (Below.refl _ _).alloc (Nat.le_refl _) _⟩
  obtain ⟨k, rfl⟩ := Int.eq_ofNat_of_zero_le (show 0 ≤ n by omega)
  rw [M.num3_in h]
  exact sGetNum_in s k w h h2

end Go.Proofs.Ytpokcbcffijheaa
