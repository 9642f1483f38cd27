/-
  What readNum of the program does: it reads a number's bytes by jumps from state to state.
-/
import Derived.Test.YtpokcbcffijheaaFaultWalks
import Derived.Test.YtpokcbcffijheaaPart1
namespace Go.Proofs.Ytpokcbcffijheaa
open Go.RowKit

/-- An error of a code: none of 0. -/
def M.errV (c : Nat) : Value := if c = 0 then .nilIface else .iface 121 (.agg #[.int .i64 c])
theorem M.errV_no {c : Nat} (h : c ≠ 0) : M.errV c = .iface 121 (.agg #[.int .i64 c]) := by unfold M.errV; rw [if_neg h]
theorem M.errV_ok : M.errV 0 = .nilIface := by unfold M.errV; rw [if_pos rfl]

/-- What holds at the labels: 1 more, 2 last, 0 wrong. -/
def M.atLabel (s : ByteArray) (n : Nat) (w : World) (l : Nat) (a' : Act) (w' : World) : Prop := w' = w ∧
  ((l = 1 ∧ ∃ (i u : Nat) (z y q : Int) (b : Value) (u12 u13 u14 u15 u16 u17 u18 u19 u20 u21 u22 u23 u24 u25 u26 u27 u28 u29 u30 u31 u32 u33 u34 u35 u36 u37 u38 u39 u40 u41 u42 u43 u44 u45 u46 u47 u48 u49 u50 u51 u52 u53 u54 u55 : Value), z = (n : Int) + (i : Int) ∧ y = 7 * (i : Int) ∧ q = (u : Int) ∧ i ≤ 9 ∧ Hid (u < 2 ^ (7 * i)) ∧ Hid (M.rd i u (s.data.toList.drop (n + i)) = M.rd 0 0 (s.data.toList.drop n)) ∧ (i ≠ 0 → n + i ≤ s.size) ∧ a' = (⟨#[.string s, .int .i64 z, undef, undef, .int .i64 0, .int .i64 0, .nilIface, .int .u64 q, .int .u64 y, b, .int .i64 0, .nilIface, u12, u13, u14, u15, u16, u17, u18, u19, u20, u21, u22, u23, u24, u25, u26, u27, u28, u29, u30, u31, u32, u33, u34, u35, u36, u37, u38, u39, u40, u41, u42, u43, u44, u45, u46, u47, u48, u49, u50, u51, u52, u53, u54, u55], []⟩ : Act))
  ∨ (l = 2 ∧ ∃ (i u b : Nat) (z y q x : Int) (u12 u13 u14 u15 u16 u17 u18 u19 u20 u21 u22 u23 u24 u25 u26 u27 u28 u29 u30 u31 u32 u33 u34 u35 u36 u37 u38 u39 u40 u41 u42 u43 u44 u45 u46 u47 u48 u49 u50 u51 u52 u53 u54 u55 : Value), z = (n : Int) + (i : Int) + 1 ∧ y = 7 * (i : Int) ∧ q = (u : Int) ∧ x = (b : Int) ∧ i ≤ 9 ∧ b < 128 ∧ Hid (u < 18446744073709551616) ∧ n + i < s.size ∧ Hid (M.rd 0 0 (s.data.toList.drop n) = if b = 0 ∧ i ≠ 0 then (3, 0, 0) else (0, u, i + 1)) ∧ a' = (⟨#[.string s, .int .i64 z, undef, undef, .int .i64 0, .int .i64 0, .nilIface, .int .u64 q, .int .u64 y, .int .u8 x, .int .i64 0, .nilIface, u12, u13, u14, u15, u16, u17, u18, u19, u20, u21, u22, u23, u24, u25, u26, u27, u28, u29, u30, u31, u32, u33, u34, u35, u36, u37, u38, u39, u40, u41, u42, u43, u44, u45, u46, u47, u48, u49, u50, u51, u52, u53, u54, u55], []⟩ : Act))
  ∨ (l = 0 ∧ ∃ (c : Nat) (x : Int) (p v sh b : Value) (u12 u13 u14 u15 u16 u17 u18 u19 u20 u21 u22 u23 u24 u25 u26 u27 u28 u29 u30 u31 u32 u33 u34 u35 u36 u37 u38 u39 u40 u41 u42 u43 u44 u45 u46 u47 u48 u49 u50 u51 u52 u53 u54 u55 : Value), x = (c : Int) ∧ (c = 3 ∨ c = 4) ∧ Hid (M.rd 0 0 (s.data.toList.drop n) = (c, 0, 0)) ∧ a' = (⟨#[.string s, p, undef, undef, .int .i64 0, .int .i64 0, .nilIface, v, sh, b, .int .i64 x, .nilIface, u12, u13, u14, u15, u16, u17, u18, u19, u20, u21, u22, u23, u24, u25, u26, u27, u28, u29, u30, u31, u32, u33, u34, u35, u36, u37, u38, u39, u40, u41, u42, u43, u44, u45, u46, u47, u48, u49, u50, u51, u52, u53, u54, u55], []⟩ : Act)))
def M.labelLeft (l : Nat) (a' : Act) (_ : World) : Nat := if l = 1 then 200 - (intOf (a'.tmps.getD 8 undef)).toNat else l

set_option maxRecDepth 100000 in
set_option maxHeartbeats 1600000 in
theorem readNum_in (s : ByteArray) (n : Nat) (w : World) (hs : ¬ 20000 < s.size) (h2 : (n : Int) ≤ 9223372036854775807) :
    Calls Try.prog 82 #[.string s, .int .i64 n] w fun e w' => e = .returned (.tuple #[.int .i64 (if (M.rd 0 0 (s.data.toList.drop n)).1 = 0 then M.unZ (M.rd 0 0 (s.data.toList.drop n)).2.1 else 0), .int .i64 (if (M.rd 0 0 (s.data.toList.drop n)).1 = 0 then (n : Int) + (M.rd 0 0 (s.data.toList.drop n)).2.2 else 0), M.errV (M.rd 0 0 (s.data.toList.drop n)).1]) ∧ w = w' := by
  go_enter Try.func82, Try.ntmps82
  go_wp2
  refine M.wp_scope_fall (M.atLabel s n w) M.labelLeft ?_ ?_
  · intro hpass
    have HP : Hid _ := hpass
    clear hpass
    go_wp2_with (go_at_call 86; refine (placeFault_ok s _ _ hs (by omega) h2).mono ?_; rintro e w' ⟨rfl, rfl⟩)
    go_step3
    rename_i K hK
    refine hK _ _ ?_
    refine HP.out 1 _ _ _ rfl ?_
    exact (⟨rfl, .inl ⟨rfl, 0, 0, n, 0, 0, _, _, _, _, _, _, _, _, _, _, _, _, _, _, _, _, _, _, _, _, _, _, _, _, _, _, _, _, _, _, _, _, _, _, _, _, _, _, _, _, _, _, _, _, _, by simp, by simp, rfl, by omega, show 0 < _ by decide, rfl, fun h => absurd rfl h, rfl⟩⟩ : M.atLabel s n w 1 _ _)
  · rintro l a' w' ⟨rfl, ⟨rfl, i, u, _, _, _, b, u12, u13, u14, u15, u16, u17, u18, u19, u20, u21, u22, u23, u24, u25, u26, u27, u28, u29, u30, u31, u32, u33, u34, u35, u36, u37, u38, u39, u40, u41, u42, u43, u44, u45, u46, u47, u48, u49, u50, u51, u52, u53, u54, u55, rfl, rfl, rfl, hi, hu, HR, hni, rfl⟩ | ⟨rfl, i, u, b, _, _, _, _, u12, u13, u14, u15, u16, u17, u18, u19, u20, u21, u22, u23, u24, u25, u26, u27, u28, u29, u30, u31, u32, u33, u34, u35, u36, u37, u38, u39, u40, u41, u42, u43, u44, u45, u46, u47, u48, u49, u50, u51, u52, u53, u54, u55, rfl, rfl, rfl, rfl, hi, hb, hu, hni, HR, rfl⟩ | ⟨rfl, c, _, p, v, sh, b, u12, u13, u14, u15, u16, u17, u18, u19, u20, u21, u22, u23, u24, u25, u26, u27, u28, u29, u30, u31, u32, u33, u34, u35, u36, u37, u38, u39, u40, u41, u42, u43, u44, u45, u46, u47, u48, u49, u50, u51, u52, u53, u54, u55, rfl, hc, HR, rfl⟩⟩
    · refine ⟨_, rfl, ?_⟩
      by_cases hlt : n + i < s.size
      · have hc9 : ((s[n + i]'hlt).toNat : Int) ≤ 255 := by have := (s[n + i]'hlt).toNat_lt; omega
        have hd := M.drop_cons s (n + i) hlt
        have dlt : decide ((s.size : Int) ≤ (n : Int) + (i : Int)) = false := decide_eq_false (by omega)
        by_cases h9 : i = 9 ∧ 1 < (s[n + i]'hlt).toNat
        · have H2 : Hid (M.rd 0 0 (s.data.toList.drop n) = (3, 0, 0)) := by show _ = _; rw [← HR.out, hd, M.rd_ten h9.1 h9.2]
          have d9 : ((7 * (i : Int)) == 63) = true := beq_iff_eq.2 (by omega)
          have d1 : decide ((1 : Int) < ((s[n + i]'hlt).toNat : Int)) = true := decide_eq_true (by omega)
          clear HR hu hd h9
          go_wp2
          go_step3
          refine ⟨⟨rfl, .inr (.inr ⟨rfl, 3, _, _, _, _, _, _, _, _, _, _, _, _, _, _, _, _, _, _, _, _, _, _, _, _, _, _, _, _, _, _, _, _, _, _, _, _, _, _, _, _, _, _, _, _, _, _, _, _, _, rfl, .inl rfl, H2, rfl⟩)⟩, ?_⟩
          simp [M.labelLeft, intOf]
          omega
        · have H9 : Hid (¬ (i = 9 ∧ 1 < (s[n + i]'hlt).toNat)) := h9
          have HO : Hid (bits .or .u64 (u : Int) (IntKind.u64.wrap (((s[n + i]'hlt).toNat : Int) % 128 * 2 ^ (7 * i))) = ((u + ((s[n + i]'hlt).toNat % 128) * 2 ^ (7 * i) : Nat) : Int)) := M.or_add hu.out hi (by omega)
          have HS : Hid (u + ((s[n + i]'hlt).toNat % 128) * 2 ^ (7 * i) < 18446744073709551616) := M.sum_lt hu.out hi (by omega)
          have HD : Hid (s.data.toList.drop (n + i) = s[n + i] :: s.data.toList.drop (n + i + 1)) := hd
          have hrg : i < 9 ∨ (9 ≤ i ∧ (s[n + i]'hlt).toNat ≤ 1) := by omega
          clear hd h9
          by_cases hb : (s[n + i]'hlt).toNat < 128
          · have H2 : Hid (M.rd 0 0 (s.data.toList.drop n) = if (s[n + i]'hlt).toNat = 0 ∧ i ≠ 0 then (3, 0, 0) else (0, u + ((s[n + i]'hlt).toNat % 128) * 2 ^ (7 * i), i + 1)) := by show _ = _; rw [← HR.out, HD.out, M.rd_last' H9.out hb]
            rcases hrg with h9 | ⟨h9, h10⟩
            · have d9 : ((7 * (i : Int)) == 63) = false := beq_eq_false_iff_ne.2 (by omega)
              go_wp2
              go_step3
              refine ⟨⟨rfl, .inr (.inl ⟨rfl, i, u + ((s[n + i]'hlt).toNat % 128) * 2 ^ (7 * i), (s[n + i]'hlt).toNat, _, _, _, _, _, _, _, _, _, _, _, _, _, _, _, _, _, _, _, _, _, _, _, _, _, _, _, _, _, _, _, _, _, _, _, _, _, _, _, _, _, _, _, _, _, _, _, _, rfl, rfl, HO.out, rfl, hi, hb, HS, hlt, H2, rfl⟩)⟩, ?_⟩
              simp [M.labelLeft, intOf]
              omega
            · have d9 : ((7 * (i : Int)) == 63) = true := beq_iff_eq.2 (by omega)
              have d1 : decide ((1 : Int) < ((s[n + i]'hlt).toNat : Int)) = false := decide_eq_false (by omega)
              go_wp2
              go_step3
              refine ⟨⟨rfl, .inr (.inl ⟨rfl, i, u + ((s[n + i]'hlt).toNat % 128) * 2 ^ (7 * i), (s[n + i]'hlt).toNat, _, _, _, _, _, _, _, _, _, _, _, _, _, _, _, _, _, _, _, _, _, _, _, _, _, _, _, _, _, _, _, _, _, _, _, _, _, _, _, _, _, _, _, _, _, _, _, _, rfl, rfl, HO.out, rfl, hi, hb, HS, hlt, H2, rfl⟩)⟩, ?_⟩
              simp [M.labelLeft, intOf]
              omega
          · have h9 : i < 9 := by omega
            have d9 : ((7 * (i : Int)) == 63) = false := beq_eq_false_iff_ne.2 (by omega)
            have H2 : Hid (M.rd (i + 1) (u + ((s[n + i]'hlt).toNat % 128) * 2 ^ (7 * i)) (s.data.toList.drop (n + (i + 1))) = M.rd 0 0 (s.data.toList.drop n)) := by show _ = _; rw [← HR.out, HD.out, M.rd_more (by omega) hb]; rfl
            have HL : Hid (u + ((s[n + i]'hlt).toNat % 128) * 2 ^ (7 * i) < 2 ^ (7 * (i + 1))) := M.low_next hu.out (Nat.mod_lt _ (by decide))
            clear hrg
            go_wp2
            go_step3
            refine ⟨⟨rfl, .inl ⟨rfl, i + 1, u + ((s[n + i]'hlt).toNat % 128) * 2 ^ (7 * i), _, _, _, _, _, _, _, _, _, _, _, _, _, _, _, _, _, _, _, _, _, _, _, _, _, _, _, _, _, _, _, _, _, _, _, _, _, _, _, _, _, _, _, _, _, _, _, _, ?_, ?_, HO.out, by omega, HL, H2, fun _ => by omega, rfl⟩⟩, ?_⟩
            · omega
            · omega
            · simp [M.labelLeft, intOf]
              omega
      · have H2 : Hid (M.rd 0 0 (s.data.toList.drop n) = (4, 0, 0)) := by show _ = _; rw [← HR.out, M.drop_nil s _ hlt, M.rd_nil]
        have d9 : decide ((s.size : Int) ≤ (n : Int) + (i : Int)) = true := decide_eq_true (by omega)
        clear HR hu
        go_wp2
        go_step3
        refine ⟨⟨rfl, .inr (.inr ⟨rfl, 4, _, _, _, _, _, _, _, _, _, _, _, _, _, _, _, _, _, _, _, _, _, _, _, _, _, _, _, _, _, _, _, _, _, _, _, _, _, _, _, _, _, _, _, _, _, _, _, _, _, rfl, .inr rfl, H2, rfl⟩)⟩, ?_⟩
        simp [M.labelLeft, intOf]
        omega
    · refine ⟨_, rfl, ?_⟩
      by_cases hz : b = 0 ∧ i ≠ 0
      · have H2 : Hid (M.rd 0 0 (s.data.toList.drop n) = (3, 0, 0)) := by show _ = _; rw [HR.out, if_pos hz]
        obtain ⟨rfl, hz2⟩ := hz
        have hi1 : 1 ≤ i := by omega
        have d1 : decide ((0 : Int) < 7 * (i : Int)) = true := decide_eq_true (by omega)
        clear HR hz2
        go_wp2
        go_step3
        refine ⟨⟨rfl, .inr (.inr ⟨rfl, 3, _, _, _, _, _, _, _, _, _, _, _, _, _, _, _, _, _, _, _, _, _, _, _, _, _, _, _, _, _, _, _, _, _, _, _, _, _, _, _, _, _, _, _, _, _, _, _, _, _, rfl, .inl rfl, H2, rfl⟩)⟩, ?_⟩
        simp [M.labelLeft]
      · have H2 : Hid (M.rd 0 0 (s.data.toList.drop n) = (0, u, i + 1)) := by show _ = _; rw [HR.out, if_neg hz]
        clear HR
        have hu1 : (u : Int) ≤ 18446744073709551615 := by have := hu.out; omega
        rcases (show 0 < b ∨ (b = 0 ∧ i = 0) by omega) with hb0 | ⟨hb0, hi0⟩
        · have d0 : ((b : Int) == 0) = false := beq_eq_false_iff_ne.2 (by omega)
          clear hz
          go_wp2_with (go_at_call 87; refine (signedOf_any u _ hu1).mono ?_; rintro e w' ⟨rfl, rfl⟩)
          simp only [M.jumpM]
          go_ret3
          exact ⟨by rw [H2.out]; simp [M.errV_ok]; omega, rfl⟩
        · subst hb0 hi0
          clear hz
          go_wp2_with (go_at_call 87; refine (signedOf_any u _ hu1).mono ?_; rintro e w' ⟨rfl, rfl⟩)
          simp only [M.jumpM]
          go_ret3
          exact ⟨by rw [H2.out]; simp [M.errV_ok], rfl⟩
    · refine ⟨_, rfl, ?_⟩
      have H2 : Hid (M.errV c = .iface 121 (.agg #[.int .i64 c])) := M.errV_no (by omega)
      have hc0 : ¬ c = 0 := by omega
      clear hc
      go_wp2
      simp only [M.jumpM]
      go_ret3
      exact ⟨by rw [HR.out]; simp only [hc0, if_false]; rw [H2.out]; rfl, rfl⟩
end Go.Proofs.Ytpokcbcffijheaa

/-
  What readNum and codeOf of the program do, at every argument.
-/
namespace Go.Proofs.Ytpokcbcffijheaa
open Go.RowKit

set_option maxRecDepth 100000 in
set_option maxHeartbeats 800000 in
theorem readNum_size (s : ByteArray) (n : Int) (w : World) (hs' : s.size ≤ maxLen) (hs : 20000 < s.size) :
    Calls Try.prog 82 #[.string s, .int .i64 n] w fun e w' => e = .returned (.tuple #[.int .i64 0, .int .i64 0, .iface 121 (.agg #[.int .i64 2])]) ∧ w = w' := by
  go_enter Try.func82, Try.ntmps82
  go_wp2
  go_step3
  go_wp2_with (go_at_call 86; refine (placeFault_size s _ _ hs' hs).mono ?_; rintro e w' ⟨rfl, rfl⟩)
  rw [Exit.noGoto_ret]
  go_ret3
  exact ⟨rfl, rfl⟩
set_option maxRecDepth 100000 in
set_option maxHeartbeats 800000 in
theorem readNum_form (s : ByteArray) (n : Int) (w : World) (hs : ¬ 20000 < s.size) (h0 : n < 0) (h1 : -9223372036854775808 ≤ n) :
    Calls Try.prog 82 #[.string s, .int .i64 n] w fun e w' => e = .returned (.tuple #[.int .i64 0, .int .i64 0, .iface 121 (.agg #[.int .i64 1])]) ∧ w = w' := by
  go_enter Try.func82, Try.ntmps82
  go_wp2
  go_step3
  go_wp2_with (go_at_call 86; refine (placeFault_form s _ _ hs h0 h1).mono ?_; rintro e w' ⟨rfl, rfl⟩)
  rw [Exit.noGoto_ret]
  go_ret3
  exact ⟨rfl, rfl⟩

/-- GetNum's three numbers. -/
def M.num3 (s : ByteArray) (n : Int) : Int × Int × Nat :=
  if 20000 < s.size then (0, 0, 2) else if n < 0 then (0, 0, 1) else
    let r := M.rd 0 0 (s.data.toList.drop n.toNat)
    (if r.1 = 0 then M.unZ r.2.1 else 0, if r.1 = 0 then n + r.2.2 else 0, r.1)
theorem M.num3_size {s : ByteArray} {n : Int} (h : 20000 < s.size) : M.num3 s n = (0, 0, 2) := by unfold M.num3; rw [if_pos h]
theorem M.num3_form {s : ByteArray} {n : Int} (h : ¬ 20000 < s.size) (h0 : n < 0) : M.num3 s n = (0, 0, 1) := by unfold M.num3; rw [if_neg h, if_pos h0]
theorem M.num3_in {s : ByteArray} {n : Nat} (h : ¬ 20000 < s.size) : M.num3 s (n : Int) = (if (M.rd 0 0 (s.data.toList.drop n)).1 = 0 then M.unZ (M.rd 0 0 (s.data.toList.drop n)).2.1 else 0, if (M.rd 0 0 (s.data.toList.drop n)).1 = 0 then (n : Int) + (M.rd 0 0 (s.data.toList.drop n)).2.2 else 0, (M.rd 0 0 (s.data.toList.drop n)).1) := by
  unfold M.num3; rw [if_neg h, if_neg (by omega), Int.toNat_natCast]

theorem readNum_any (s : ByteArray) (n : Int) (w : World) (hs : s.size ≤ maxLen) (h1 : -9223372036854775808 ≤ n) (h2 : n ≤ 9223372036854775807) :
    Calls Try.prog 82 #[.string s, .int .i64 n] w fun e w' => e = .returned (.tuple #[.int .i64 (M.num3 s n).1, .int .i64 (M.num3 s n).2.1, M.errV (M.num3 s n).2.2]) ∧ w = w' := by
  by_cases h : 20000 < s.size
  · rw [M.num3_size h, M.errV_no (by decide)]; exact readNum_size s n w hs h
  by_cases h0 : n < 0
  · rw [M.num3_form h h0, M.errV_no (by decide)]; exact readNum_form s n w h h0 h1
  obtain ⟨k, rfl⟩ := Int.eq_ofNat_of_zero_le (show 0 ≤ n by omega)
  rw [M.num3_in h]
  exact readNum_in s k w h h2
end Go.Proofs.Ytpokcbcffijheaa

/-
  How a text is read from its bytes, with no word of the program's running.
-/
namespace Go.Proofs.Ytpokcbcffijheaa.M

theorem rd_len : ∀ (l : List UInt8) (i u v k : Nat), rd i u l = (0, v, k) → i + 1 ≤ k ∧ k ≤ i + l.length
  | [], i, u, v, k, h => by rw [rd_nil] at h; simp at h
  | c :: l, i, u, v, k, h => by
      rw [rd] at h
      by_cases h1 : i = 9 ∧ 1 < c.toNat
      · rw [if_pos h1] at h; simp at h
      · rw [if_neg h1] at h
        by_cases h2 : c.toNat < 128
        · rw [if_pos h2] at h
          by_cases h3 : c.toNat = 0 ∧ i ≠ 0
          · rw [if_pos h3] at h; simp at h
          · rw [if_neg h3] at h
            simp only [Prod.mk.injEq] at h
            simp only [List.length_cons]
            omega
        · rw [if_neg h2] at h
          have := rd_len l (i + 1) _ v k h
          simp only [List.length_cons]
          omega
theorem rd_low : ∀ (l : List UInt8) (i u v k : Nat), i ≤ 9 → u < 2 ^ (7 * i) → rd i u l = (0, v, k) → v < 18446744073709551616
  | [], i, u, v, k, _, _, h => by rw [rd_nil] at h; simp at h
  | c :: l, i, u, v, k, hi, hu, h => by
      rw [rd] at h
      by_cases h1 : i = 9 ∧ 1 < c.toNat
      · rw [if_pos h1] at h; simp at h
      · rw [if_neg h1] at h
        by_cases h2 : c.toNat < 128
        · rw [if_pos h2] at h
          by_cases h3 : c.toNat = 0 ∧ i ≠ 0
          · rw [if_pos h3] at h; simp at h
          · rw [if_neg h3] at h
            simp only [Prod.mk.injEq] at h
            obtain ⟨_, rfl, _⟩ := h
            have := sum_lt (c := c.toNat) hu hi (by omega)
            rwa [Nat.mod_eq_of_lt h2] at this
        · rw [if_neg h2] at h
          exact rd_low l (i + 1) _ v k (by omega) (low_next hu (Nat.mod_lt _ (by decide))) h

/-- Where a number was read, its place behind it lies within the text, and it is one of int64. -/
theorem num3_ok {s : ByteArray} {n : Int} (h : (num3 s n).2.2 = 0) : 0 ≤ (num3 s n).2.1 ∧ (num3 s n).2.1 ≤ s.size ∧ -9223372036854775808 ≤ (num3 s n).1 ∧ (num3 s n).1 ≤ 9223372036854775807 ∧ s.size ≤ 20000 := by
  by_cases h1 : 20000 < s.size
  · rw [num3_size h1] at h; simp at h
  by_cases h0 : n < 0
  · rw [num3_form h1 h0] at h; simp at h
  obtain ⟨k, rfl⟩ := Int.eq_ofNat_of_zero_le (show 0 ≤ n by omega)
  rw [num3_in h1] at h ⊢
  simp only at h ⊢
  rw [if_pos h, if_pos h]
  generalize hr : rd 0 0 (s.data.toList.drop k) = r at *
  obtain ⟨c, v, m⟩ := r
  simp only at h ⊢
  subst h
  have hl := rd_len _ _ _ _ _ hr
  have hv := unZ_range (rd_low _ _ _ _ _ (by omega) (by decide) hr)
  have hd : (s.data.toList.drop k).length = s.size - k := by simp
  rw [hd] at hl
  omega

/-- GetText's text, place and code. -/
def txt3 (s : ByteArray) (n : Int) : ByteArray × Int × Nat :=
  if (num3 s n).2.2 ≠ 0 then (⟨#[]⟩, 0, (num3 s n).2.2) else
  if (num3 s n).1 < 0 ∨ 20000 < (num3 s n).1 then (⟨#[]⟩, 0, 3) else
  if (s.size : Int) - (num3 s n).2.1 < (num3 s n).1 then (⟨#[]⟩, 0, 4) else
  (s.extract (num3 s n).2.1.toNat ((num3 s n).2.1.toNat + (num3 s n).1.toNat), (num3 s n).2.1 + (num3 s n).1, 0)
end Go.Proofs.Ytpokcbcffijheaa.M
