/-
  What readNum of the program does: it reads a number's bytes by jumps from state to state.
-/
import Derived.Test.YtbmbcfnlpbbapafDoorFaultWalks
import Derived.Test.YtbmbcfnlpbbapafDoorJumps
import Derived.Test.YtbmbcfnlpbbapafDoorNumMath
namespace Go.Proofs.YtbmbcfnlpbbapafDoor
open Go.RowKit

/-- An error of a code: none of 0. -/
def M.errV (c : Nat) : Value := if c = 0 then .nilIface else .iface 46 (.agg #[.int .i64 c])
theorem M.errV_no {c : Nat} (h : c ≠ 0) : M.errV c = .iface 46 (.agg #[.int .i64 c]) := by unfold M.errV; rw [if_neg h]
theorem M.errV_ok : M.errV 0 = .nilIface := by unfold M.errV; rw [if_pos rfl]

/-- What holds at the labels: 1 more, 2 last, 0 wrong. -/
def M.atLabel (s : ByteArray) (n : Nat) (w : World) (l : Nat) (a' : Act) (w' : World) : Prop := w' = w ∧
  ((l = 1 ∧ ∃ (i u : Nat) (z y q : Int) (b : Value) (u12 u13 u14 u15 u16 u17 u18 u19 u20 u21 u22 u23 u24 u25 u26 u27 u28 u29 u30 u31 u32 u33 u34 u35 u36 u37 u38 u39 u40 u41 u42 u43 u44 u45 u46 u47 u48 u49 u50 u51 u52 u53 u54 u55 : Value), z = (n : Int) + (i : Int) ∧ y = 7 * (i : Int) ∧ q = (u : Int) ∧ i ≤ 9 ∧ Hid (u < 2 ^ (7 * i)) ∧ Hid (M.rd i u (s.data.toList.drop (n + i)) = M.rd 0 0 (s.data.toList.drop n)) ∧ (i ≠ 0 → n + i ≤ s.size) ∧ a' = (⟨#[.string s, .int .i64 z, undef, undef, .int .i64 0, .int .i64 0, .nilIface, .int .u64 q, .int .u64 y, b, .int .i64 0, .nilIface, u12, u13, u14, u15, u16, u17, u18, u19, u20, u21, u22, u23, u24, u25, u26, u27, u28, u29, u30, u31, u32, u33, u34, u35, u36, u37, u38, u39, u40, u41, u42, u43, u44, u45, u46, u47, u48, u49, u50, u51, u52, u53, u54, u55], []⟩ : Act))
  ∨ (l = 2 ∧ ∃ (i u b : Nat) (z y q x : Int) (u12 u13 u14 u15 u16 u17 u18 u19 u20 u21 u22 u23 u24 u25 u26 u27 u28 u29 u30 u31 u32 u33 u34 u35 u36 u37 u38 u39 u40 u41 u42 u43 u44 u45 u46 u47 u48 u49 u50 u51 u52 u53 u54 u55 : Value), z = (n : Int) + (i : Int) + 1 ∧ y = 7 * (i : Int) ∧ q = (u : Int) ∧ x = (b : Int) ∧ i ≤ 9 ∧ b < 128 ∧ Hid (u < 18446744073709551616) ∧ n + i < s.size ∧ Hid (M.rd 0 0 (s.data.toList.drop n) = if b = 0 ∧ i ≠ 0 then (3, 0, 0) else (0, u, i + 1)) ∧ a' = (⟨#[.string s, .int .i64 z, undef, undef, .int .i64 0, .int .i64 0, .nilIface, .int .u64 q, .int .u64 y, .int .u8 x, .int .i64 0, .nilIface, u12, u13, u14, u15, u16, u17, u18, u19, u20, u21, u22, u23, u24, u25, u26, u27, u28, u29, u30, u31, u32, u33, u34, u35, u36, u37, u38, u39, u40, u41, u42, u43, u44, u45, u46, u47, u48, u49, u50, u51, u52, u53, u54, u55], []⟩ : Act))
  ∨ (l = 0 ∧ ∃ (c : Nat) (x : Int) (p v sh b : Value) (u12 u13 u14 u15 u16 u17 u18 u19 u20 u21 u22 u23 u24 u25 u26 u27 u28 u29 u30 u31 u32 u33 u34 u35 u36 u37 u38 u39 u40 u41 u42 u43 u44 u45 u46 u47 u48 u49 u50 u51 u52 u53 u54 u55 : Value), x = (c : Int) ∧ (c = 3 ∨ c = 4) ∧ Hid (M.rd 0 0 (s.data.toList.drop n) = (c, 0, 0)) ∧ a' = (⟨#[.string s, p, undef, undef, .int .i64 0, .int .i64 0, .nilIface, v, sh, b, .int .i64 x, .nilIface, u12, u13, u14, u15, u16, u17, u18, u19, u20, u21, u22, u23, u24, u25, u26, u27, u28, u29, u30, u31, u32, u33, u34, u35, u36, u37, u38, u39, u40, u41, u42, u43, u44, u45, u46, u47, u48, u49, u50, u51, u52, u53, u54, u55], []⟩ : Act)))
def M.labelLeft (l : Nat) (a' : Act) (_ : World) : Nat := if l = 1 then 200 - (intOf (a'.tmps.getD 8 undef)).toNat else l

set_option maxRecDepth 100000 in
set_option maxHeartbeats 1600000 in
theorem readNum_in (s : ByteArray) (n : Nat) (w : World) (hs : ¬ 20000 < s.size) (h2 : (n : Int) ≤ 9223372036854775807) :
    Calls Tryd.prog 16 #[.string s, .int .i64 n] w fun e w' => e = .returned (.tuple #[.int .i64 (if (M.rd 0 0 (s.data.toList.drop n)).1 = 0 then M.unZ (M.rd 0 0 (s.data.toList.drop n)).2.1 else 0), .int .i64 (if (M.rd 0 0 (s.data.toList.drop n)).1 = 0 then (n : Int) + (M.rd 0 0 (s.data.toList.drop n)).2.2 else 0), M.errV (M.rd 0 0 (s.data.toList.drop n)).1]) ∧ w = w' := by
  go_enter Tryd.func16, Tryd.ntmps16
  go_wp2
  refine M.wp_scope_fall (M.atLabel s n w) M.labelLeft ?_ ?_
  · intro hpass
    have HP : Hid _ := hpass
    clear hpass
    go_wp2_with (go_at_call 20; refine (placeFault_ok s _ _ hs (by omega) h2).mono ?_; rintro e w' ⟨rfl, rfl⟩)
    go_step3
    rename_i K hK
    refine hK _ _ ?_
    refine HP.out 1 _ _ _ rfl ?_
    exact (⟨rfl, .inl ⟨rfl, 0, 0, n, 0, 0, _, _, _, _, _, _, _, _, _, _, _, _, _, _, _, _, _, _, _, _, _, _, _, _, _, _, _, _, _, _, _, _, _, _, _, _, _, _, _, _, _, _, _, _, _, by simp, by simp, rfl, by omega, show 0 < _ by decide, rfl, fun h => absurd rfl h, rfl⟩⟩ : M.atLabel s n w 1 _ _)
  · rintro l a' w' ⟨rfl, ⟨rfl, i, u, _, _, _, b, u12, u13, u14, u15, u16, u17, u18, u19, u20, u21, u22, u23, u24, u25, u26, u27, u28, u29, u30, u31, u32, u33, u34, u35, u36, u37, u38, u39, u40, u41, u42, u43, u44, u45, u46, u47, u48, u49, u50, u51, u52, u53, u54, u55, rfl, rfl, rfl, hi, hu, HR, hni, rfl⟩ | ⟨rfl, i, u, b, _, _, _, _, u12, u13, u14, u15, u16, u17, u18, u19, u20, u21, u22, u23, u24, u25, u26, u27, u28, u29, u30, u31, u32, u33, u34, u35, u36, u37, u38, u39, u40, u41, u42, u43, u44, u45, u46, u47, u48, u49, u50, u51, u52, u53, u54, u55, rfl, rfl, rfl, rfl, hi, hb, hu, hni, HR, rfl⟩ | ⟨rfl, c, _, p, v, sh, b, u12, u13, u14, u15, u16, u17, u18, u19, u20, u21, u22, u23, u24, u25, u26, u27, u28, u29, u30, u31, u32, u33, u34, u35, u36, u37, u38, u39, u40, u41, u42, u43, u44, u45, u46, u47, u48, u49, u50, u51, u52, u53, u54, u55, rfl, hc, HR, rfl⟩⟩
    · refine ⟨_, rfl, ?_⟩
      by_cases hlt : n + i < s.size
      · have hc9 : ((s[n + i]'hlt).toNat : Int) ≤ 255 := by have := (s[n + i]'hlt).toNat_lt; omega
        have hd := M.drop_cons s (n + i) hlt
        have dlt : decide ((s.size : Int) ≤ (n : Int) + (i : Int)) = false := decide_eq_false (by omega)
        by_cases h9 : i = 9 ∧ 1 < (s[n + i]'hlt).toNat
        · have H2 : Hid (M.rd 0 0 (s.data.toList.drop n) = (3, 0, 0)) := by show _ = _; rw [← HR.out, hd, M.rd_ten h9.1 h9.2]
          have d9 : ((7 * (i : Int)) == 63) = true := beq_iff_eq.2 (by omega)
          have d1 : decide ((1 : Int) < ((s[n + i]'hlt).toNat : Int)) = true := decide_eq_true (by omega)
          clear HR hu hd h9
          go_wp2
          go_step3
          refine ⟨⟨rfl, .inr (.inr ⟨rfl, 3, _, _, _, _, _, _, _, _, _, _, _, _, _, _, _, _, _, _, _, _, _, _, _, _, _, _, _, _, _, _, _, _, _, _, _, _, _, _, _, _, _, _, _, _, _, _, _, _, _, rfl, .inl rfl, H2, rfl⟩)⟩, ?_⟩
          simp [M.labelLeft, intOf]
          omega
        · have H9 : Hid (¬ (i = 9 ∧ 1 < (s[n + i]'hlt).toNat)) := h9
          have HO : Hid (bits .or .u64 (u : Int) (IntKind.u64.wrap (((s[n + i]'hlt).toNat : Int) % 128 * 2 ^ (7 * i))) = ((u + ((s[n + i]'hlt).toNat % 128) * 2 ^ (7 * i) : Nat) : Int)) := M.or_add hu.out hi (by omega)
          have HS : Hid (u + ((s[n + i]'hlt).toNat % 128) * 2 ^ (7 * i) < 18446744073709551616) := M.sum_lt hu.out hi (by omega)
          have HD : Hid (s.data.toList.drop (n + i) = s[n + i] :: s.data.toList.drop (n + i + 1)) := hd
          have hrg : i < 9 ∨ (9 ≤ i ∧ (s[n + i]'hlt).toNat ≤ 1) := by omega
          clear hd h9
          by_cases hb : (s[n + i]'hlt).toNat < 128
          · have H2 : Hid (M.rd 0 0 (s.data.toList.drop n) = if (s[n + i]'hlt).toNat = 0 ∧ i ≠ 0 then (3, 0, 0) else (0, u + ((s[n + i]'hlt).toNat % 128) * 2 ^ (7 * i), i + 1)) := by show _ = _; rw [← HR.out, HD.out, M.rd_last' H9.out hb]
            rcases hrg with h9 | ⟨h9, h10⟩
            · have d9 : ((7 * (i : Int)) == 63) = false := beq_eq_false_iff_ne.2 (by omega)
              go_wp2
              go_step3
              refine ⟨⟨rfl, .inr (.inl ⟨rfl, i, u + ((s[n + i]'hlt).toNat % 128) * 2 ^ (7 * i), (s[n + i]'hlt).toNat, _, _, _, _, _, _, _, _, _, _, _, _, _, _, _, _, _, _, _, _, _, _, _, _, _, _, _, _, _, _, _, _, _, _, _, _, _, _, _, _, _, _, _, _, _, _, _, _, rfl, rfl, HO.out, rfl, hi, hb, HS, hlt, H2, rfl⟩)⟩, ?_⟩
              simp [M.labelLeft, intOf]
              omega
            · have d9 : ((7 * (i : Int)) == 63) = true := beq_iff_eq.2 (by omega)
              have d1 : decide ((1 : Int) < ((s[n + i]'hlt).toNat : Int)) = false := decide_eq_false (by omega)
              go_wp2
              go_step3
              refine ⟨⟨rfl, .inr (.inl ⟨rfl, i, u + ((s[n + i]'hlt).toNat % 128) * 2 ^ (7 * i), (s[n + i]'hlt).toNat, _, _, _, _, _, _, _, _, _, _, _, _, _, _, _, _, _, _, _, _, _, _, _, _, _, _, _, _, _, _, _, _, _, _, _, _, _, _, _, _, _, _, _, _, _, _, _, _, rfl, rfl, HO.out, rfl, hi, hb, HS, hlt, H2, rfl⟩)⟩, ?_⟩
              simp [M.labelLeft, intOf]
              omega
          · have h9 : i < 9 := by omega
            have d9 : ((7 * (i : Int)) == 63) = false := beq_eq_false_iff_ne.2 (by omega)
            have H2 : Hid (M.rd (i + 1) (u + ((s[n + i]'hlt).toNat % 128) * 2 ^ (7 * i)) (s.data.toList.drop (n + (i + 1))) = M.rd 0 0 (s.data.toList.drop n)) := by show _ = _; rw [← HR.out, HD.out, M.rd_more (by omega) hb]; rfl
            have HL : Hid (u + ((s[n + i]'hlt).toNat % 128) * 2 ^ (7 * i) < 2 ^ (7 * (i + 1))) := M.low_next hu.out (Nat.mod_lt _ (by decide))
            clear hrg
            go_wp2
            go_step3
            refine ⟨⟨rfl, .inl ⟨rfl, i + 1, u + ((s[n + i]'hlt).toNat % 128) * 2 ^ (7 * i), _, _, _, _, _, _, _, _, _, _, _, _, _, _, _, _, _, _, _, _, _, _, _, _, _, _, _, _, _, _, _, _, _, _, _, _, _, _, _, _, _, _, _, _, _, _, _, _, ?_, ?_, HO.out, by omega, HL, H2, fun _ => by omega, rfl⟩⟩, ?_⟩
            · omega
            · omega
            · simp [M.labelLeft, intOf]
              omega
      · have H2 : Hid (M.rd 0 0 (s.data.toList.drop n) = (4, 0, 0)) := by show _ = _; rw [← HR.out, M.drop_nil s _ hlt, M.rd_nil]
        have d9 : decide ((s.size : Int) ≤ (n : Int) + (i : Int)) = true := decide_eq_true (by omega)
        clear HR hu
        go_wp2
        go_step3
        refine ⟨⟨rfl, .inr (.inr ⟨rfl, 4, _, _, _, _, _, _, _, _, _, _, _, _, _, _, _, _, _, _, _, _, _, _, _, _, _, _, _, _, _, _, _, _, _, _, _, _, _, _, _, _, _, _, _, _, _, _, _, _, _, rfl, .inr rfl, H2, rfl⟩)⟩, ?_⟩
        simp [M.labelLeft, intOf]
        omega
    · refine ⟨_, rfl, ?_⟩
      by_cases hz : b = 0 ∧ i ≠ 0
      · have H2 : Hid (M.rd 0 0 (s.data.toList.drop n) = (3, 0, 0)) := by show _ = _; rw [HR.out, if_pos hz]
        obtain ⟨rfl, hz2⟩ := hz
        have hi1 : 1 ≤ i := by omega
        have d1 : decide ((0 : Int) < 7 * (i : Int)) = true := decide_eq_true (by omega)
        clear HR hz2
        go_wp2
        go_step3
        refine ⟨⟨rfl, .inr (.inr ⟨rfl, 3, _, _, _, _, _, _, _, _, _, _, _, _, _, _, _, _, _, _, _, _, _, _, _, _, _, _, _, _, _, _, _, _, _, _, _, _, _, _, _, _, _, _, _, _, _, _, _, _, _, rfl, .inl rfl, H2, rfl⟩)⟩, ?_⟩
        simp [M.labelLeft]
      · have H2 : Hid (M.rd 0 0 (s.data.toList.drop n) = (0, u, i + 1)) := by show _ = _; rw [HR.out, if_neg hz]
        clear HR
        have hu1 : (u : Int) ≤ 18446744073709551615 := by have := hu.out; omega
        rcases (show 0 < b ∨ (b = 0 ∧ i = 0) by omega) with hb0 | ⟨hb0, hi0⟩
        · have d0 : ((b : Int) == 0) = false := beq_eq_false_iff_ne.2 (by omega)
          clear hz
          go_wp2_with (go_at_call 21; refine (signedOf_any u _ hu1).mono ?_; rintro e w' ⟨rfl, rfl⟩)
          simp only [M.jumpM]
          go_ret3
          exact ⟨by rw [H2.out]; simp [M.errV_ok]; omega, rfl⟩
        · subst hb0 hi0
          clear hz
          go_wp2_with (go_at_call 21; refine (signedOf_any u _ hu1).mono ?_; rintro e w' ⟨rfl, rfl⟩)
          simp only [M.jumpM]
          go_ret3
          exact ⟨by rw [H2.out]; simp [M.errV_ok], rfl⟩
    · refine ⟨_, rfl, ?_⟩
      have H2 : Hid (M.errV c = .iface 46 (.agg #[.int .i64 c])) := M.errV_no (by omega)
      have hc0 : ¬ c = 0 := by omega
      clear hc
      go_wp2
      simp only [M.jumpM]
      go_ret3
      exact ⟨by rw [HR.out]; simp only [hc0, if_false]; rw [H2.out]; rfl, rfl⟩
end Go.Proofs.YtbmbcfnlpbbapafDoor
