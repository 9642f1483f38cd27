/-
  What PutNum of the program and of the specification do: both answer the seven-bit digits of the number's u.
-/
import Derived.Test.YtpokcbcffijheaaRows
import Derived.Test.YtpokcbcffijheaaJoinedWalk
namespace Go.Proofs.Ytpokcbcffijheaa
open Go.RowKit

set_option maxHeartbeats 400000 in
theorem sFold_any (n : Int) (w : World) (h1 : -9223372036854775808 ≤ n) (h2 : n ≤ 9223372036854775807) :
    Calls Try.prog 69 #[.int .i64 n] w fun e w' => e = .returned (.int .u64 (M.foldZ n)) ∧ w = w' := by
  by_cases h : n < 0
  · have e := M.foldZ_neg h
    have E : Hid ((M.foldZ n : Int) = 2 * (-(n + 1)) + 1) := e
    clear e
    go_enter Try.func69, Try.ntmps69
    go_wp2
    go_ret
    rw [E.out]
    exact ⟨rfl, rfl⟩
  · have e := M.foldZ_pos h
    have E : Hid ((M.foldZ n : Int) = 2 * n) := e
    clear e
    go_enter Try.func69, Try.ntmps69
    go_wp2
    go_ret
    rw [E.out]
    exact ⟨rfl, rfl⟩

set_option maxHeartbeats 400000 in
theorem iFold_any (n : Int) (w : World) (h1 : -9223372036854775808 ≤ n) (h2 : n ≤ 9223372036854775807) :
    Calls Try.prog 67 #[.int .i64 n] w fun e w' => e = .returned (.int .u64 (M.foldZ n)) ∧ w = w' := by
  by_cases h : n < 0
  · have e := M.foldZ_neg h
    have E : Hid ((M.foldZ n : Int) = 2 * (-(n + 1)) + 1) := e
    clear e
    go_enter Try.func67, Try.ntmps67
    go_wp2
    go_ret
    rw [E.out]
    exact ⟨rfl, rfl⟩
  · have e := M.foldZ_pos h
    have E : Hid ((M.foldZ n : Int) = 2 * n) := e
    clear e
    go_enter Try.func67, Try.ntmps67
    go_wp2
    go_ret
    rw [E.out]
    exact ⟨rfl, rfl⟩

set_option maxRecDepth 100000 in
set_option maxHeartbeats 800000 in
theorem iPutNum_any (n : Int) (w : World) (h1 : -9223372036854775808 ≤ n) (h2 : n ≤ 9223372036854775807) :
    Calls Try.prog 34 #[.int .i64 n] w fun e w' => e = .returned (.string ⟨(M.enc (M.foldZ n)).toArray⟩) ∧ Below w.heap.size w w' := by
  obtain ⟨i0, hi, hz0, hz1, hz2⟩ := info_parts Try.infoB
  have hU := M.foldZ_lt h1 h2
  have hL := M.enc_len (M.foldZ n)
  go_enter Try.func34, Try.ntmps34
  go_wp2_with (go_at_call 67; refine (iFold_any _ _ h1 h2).mono ?_; rintro e w' ⟨rfl, rfl⟩)
  go_loopw [3, 4] (fun v r wr => ∃ (acc : List UInt8) (u : Nat), r = .int .u64 u ∧ Hid (u < 18446744073709551616) ∧ Hid (acc ++ M.enc u = M.enc (M.foldZ n)) ∧ wr.ownsRow w.heap.size 5 1 v acc.length (M.cells acc) ∧ Below w.heap.size w wr) (fun _ r _ => (intOf r).toNat)
  case atStart => exact ⟨[], _, rfl, show _ < _ by omega, rfl, World.ownsRow_nil _ _ _ _, Below.refl _ _⟩
  case round =>
    obtain ⟨acc, u, rfl, hu, HE, hown, hbel⟩ := hrel
    have hal : acc.length ≤ 10 := by
      have := congrArg List.length HE.out
      have hul := M.enc_len u
      simp at this; omega
    have hu1 : (u : Int) ≤ 18446744073709551615 := by have := hu.out; omega
    clear hL hU
    by_cases hlt : u < 128
    · have hE : M.enc (M.foldZ n) = acc ++ [UInt8.ofNat u] := by rw [← HE.out, M.enc_small hlt]
      have H2 : Hid (M.enc (M.foldZ n) = acc ++ [UInt8.ofNat u]) := hE
      clear hE HE
      go_wp2_with (at_builtin; refine wpList_append_own _ rfl (.tmp 18) (.tmp 21) 22 rfl w.heap.size 5 i0 (.int .u8 0) 1 1 Try.underlying22 hi hz0 hz1 hz2 rfl (by decide) _ _ _ rfl (hown.alloc _) ⟨wr.heap.size, 0, none⟩ 1 1 [.int .u8 u] rfl rfl (cell_one_new _ _ _) ?c2 ?c3 ?c4 ?c5 ?_)
      case c2 => intro x hx; simp at hx; subst hx; rfl
      case c3 => unfold maxLen; omega
      case c4 => omega
      case c5 => have := hbel.size; simp; omega
      intro v' w1 hown' hgrow _
      rw [M.app_cells (u := u) (by omega) rfl] at hown'
      have hcv := M.conv_own Try.underlying22 Try.underlying5 Try.underlying9 hown'
      have hb1 := M.app_below hbel hown hgrow
      clear hown' hgrow hown hbel
      go_wp2
      go_ret
      exact ⟨by rw [H2.out]; rfl, hb1⟩
    · go_wp2_with (at_builtin; refine wpList_append_own _ rfl (.tmp 9) (.tmp 14) 22 rfl w.heap.size 5 i0 (.int .u8 0) 1 1 Try.underlying22 hi hz0 hz1 hz2 rfl (by decide) _ _ _ rfl (hown.alloc _) ⟨wr.heap.size, 0, none⟩ 1 1 [.int .u8 (u % 128 + 128)] rfl rfl (cell_one_new _ _ _) ?d2 ?d3 ?d4 ?d5 ?_)
      case d2 => intro x hx; simp at hx; subst hx; rfl
      case d3 => unfold maxLen; omega
      case d4 => omega
      case d5 => have := hbel.size; simp; omega
      intro v' w1 hown' hgrow _
      rw [M.app_cells (u := u % 128 + 128) (by omega) (by omega)] at hown'
      have hb1 := M.app_below hbel hown hgrow
      have H2 : Hid ((acc ++ [UInt8.ofNat (u % 128 + 128)]) ++ M.enc (u / 128) = M.enc (M.foldZ n)) := by
        have := HE.out
        rw [M.enc_big hlt hu.out] at this
        show _ = _
        rw [← this]; simp
      clear hgrow hown hbel HE
      go_wp2
      go_roundw
      case rel =>
        have hv : u / 128 < 18446744073709551616 := by have := hu.out; omega
        exact ⟨acc ++ [UInt8.ofNat (u % 128 + 128)], u / 128, by go_num, hv, H2, by rw [List.length_append]; exact hown', hb1⟩
      case measure => simp [intOf]; omega
set_option maxRecDepth 100000 in
set_option maxHeartbeats 800000 in
theorem sPutNum_any (n : Int) (w : World) (h1 : -9223372036854775808 ≤ n) (h2 : n ≤ 9223372036854775807) :
    Calls Try.prog 37 #[.int .i64 n] w fun e w' => e = .returned (.string ⟨(M.enc (M.foldZ n)).toArray⟩) ∧ Below w.heap.size w w' := by
  obtain ⟨i0, hi, hz0, hz1, hz2⟩ := info_parts Try.infoB
  have hU := M.foldZ_lt h1 h2
  have hL := M.enc_len (M.foldZ n)
  go_enter Try.func37, Try.ntmps37
  go_wp2_with (go_at_call 69; refine (sFold_any _ _ h1 h2).mono ?_; rintro e w' ⟨rfl, rfl⟩)
  go_loopw [3, 4] (fun r v wr => ∃ (acc : List UInt8) (u : Nat), r = .int .u64 u ∧ Hid (u < 18446744073709551616) ∧ Hid (acc ++ M.enc u = M.enc (M.foldZ n)) ∧ wr.ownsRow w.heap.size 5 1 v acc.length (M.cells acc) ∧ Below w.heap.size w wr) (fun r _ _ => (intOf r).toNat)
  case atStart => exact ⟨[], _, rfl, show _ < _ by omega, rfl, ⟨rfl, .inr ⟨_, 0, #[], rfl, Nat.le_refl _, heap_alloc_new _ _, Nat.le_refl _, by decide, rfl, rfl⟩⟩, (Below.refl _ _).alloc (Nat.le_refl _) _⟩
  case round =>
    obtain ⟨acc, u, rfl, hu, HE, hown, hbel⟩ := hrel
    have hal : acc.length ≤ 10 := by
      have := congrArg List.length HE.out
      have hul := M.enc_len u
      simp at this; omega
    have hu1 : (u : Int) ≤ 18446744073709551615 := by have := hu.out; omega
    clear hL hU
    by_cases hlt : u < 128
    · have hE : M.enc (M.foldZ n) = acc ++ [UInt8.ofNat u] := by rw [← HE.out, M.enc_small hlt]
      have H2 : Hid (M.enc (M.foldZ n) = acc ++ [UInt8.ofNat u]) := hE
      clear hE HE
      go_wp2_with (at_builtin; refine wpList_append_own _ rfl (.tmp 19) (.tmp 22) 22 rfl w.heap.size 5 i0 (.int .u8 0) 1 1 Try.underlying22 hi hz0 hz1 hz2 rfl (by decide) _ _ _ rfl (hown.alloc _) ⟨wr.heap.size, 0, none⟩ 1 1 [.int .u8 u] rfl rfl (cell_one_new _ _ _) ?c2 ?c3 ?c4 ?c5 ?_)
      case c2 => intro x hx; simp at hx; subst hx; rfl
      case c3 => unfold maxLen; omega
      case c4 => omega
      case c5 => have := hbel.size; simp; omega
      intro v' w1 hown' hgrow _
      rw [M.app_cells (u := u) (by omega) rfl] at hown'
      have hcv := M.conv_own Try.underlying22 Try.underlying5 Try.underlying9 hown'
      have hb1 := M.app_below hbel hown hgrow
      clear hown' hgrow hown hbel
      go_wp2
      go_ret
      exact ⟨by rw [H2.out]; rfl, hb1⟩
    · go_wp2_with (at_builtin; refine wpList_append_own _ rfl (.tmp 10) (.tmp 15) 22 rfl w.heap.size 5 i0 (.int .u8 0) 1 1 Try.underlying22 hi hz0 hz1 hz2 rfl (by decide) _ _ _ rfl (hown.alloc _) ⟨wr.heap.size, 0, none⟩ 1 1 [.int .u8 (u % 128 + 128)] rfl rfl (cell_one_new _ _ _) ?d2 ?d3 ?d4 ?d5 ?_)
      case d2 => intro x hx; simp at hx; subst hx; rfl
      case d3 => unfold maxLen; omega
      case d4 => omega
      case d5 => have := hbel.size; simp; omega
      intro v' w1 hown' hgrow _
      rw [M.app_cells (u := u % 128 + 128) (by omega) (by omega)] at hown'
      have hb1 := M.app_below hbel hown hgrow
      have H2 : Hid ((acc ++ [UInt8.ofNat (u % 128 + 128)]) ++ M.enc (u / 128) = M.enc (M.foldZ n)) := by
        have := HE.out
        rw [M.enc_big hlt hu.out] at this
        show _ = _
        rw [← this]; simp
      clear hgrow hown hbel HE
      go_wp2
      go_roundw
      case rel =>
        have hv : u / 128 < 18446744073709551616 := by have := hu.out; omega
        exact ⟨acc ++ [UInt8.ofNat (u % 128 + 128)], u / 128, by go_num, hv, H2, by rw [List.length_append]; exact hown', hb1⟩
      case measure => simp [intOf]; omega

end Go.Proofs.Ytpokcbcffijheaa
