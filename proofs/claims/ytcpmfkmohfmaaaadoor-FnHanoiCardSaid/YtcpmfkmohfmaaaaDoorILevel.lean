/-
  What LevelAt of the program does.
-/
import Derived.Test.YtcpmfkmohfmaaaaDoorLevMath
import Derived.WalkSpells
import Derived.WalkLawsBesides
namespace Go.Proofs.YtcpmfkmohfmaaaaDoor
open Go.RowKit

/-- The cells of the library's table that numbers below 32 ask for. -/
def M.tz5 (w : World) : Prop := w.cell? ⟨0, 0, none⟩ = some (.int .u8 0) ∧ w.cell? ⟨0, 1, none⟩ = some (.int .u8 1) ∧ w.cell? ⟨0, 3, none⟩ = some (.int .u8 2) ∧ w.cell? ⟨0, 7, none⟩ = some (.int .u8 3) ∧ w.cell? ⟨0, 15, none⟩ = some (.int .u8 4)
theorem M.tz5.lt {w : World} (h : M.tz5 w) : 0 < w.heap.size := World.block_lt_of_cell? w _ h.1
theorem M.tz5.below {w w' : World} (h : M.tz5 w) (hb : Below w.heap.size w w') : M.tz5 w' := by
  have hl := h.lt
  have e : ∀ i, w'.cell? ⟨0, i, none⟩ = w.cell? ⟨0, i, none⟩ := fun i => hb.cell (p := ⟨0, i, none⟩) hl
  obtain ⟨c0, c1, c2, c3, c4⟩ := h
  exact ⟨(e _).trans c0, (e _).trans c1, (e _).trans c2, (e _).trans c3, (e _).trans c4⟩

theorem M.low_bit : ∀ x : Fin 32, x.val ≠ 0 → bits BinOp.and IntKind.u64 (x.val : Int) (IntKind.u64.wrap (-(x.val : Int))) = ((2 ^ M.half x.val : Nat) : Int) := of_decide_eq_true (by kernel_rfl)
theorem M.half_lt (m : Nat) : M.half m < 5 := by unfold M.half; repeat' split
                                                 all_goals omega

set_option maxRecDepth 100000 in
set_option maxHeartbeats 400000 in
theorem tz_at0 (x : Nat) (w : World) (hx : x ≠ 0) (h : w.cell? ⟨0, 0, none⟩ = some (.int .u8 0)) (e1 : bits BinOp.and IntKind.u64 (x : Int) (IntKind.u64.wrap (-(x : Int))) = 1) :
    Calls Tryd.prog 13 #[.int .u64 x] w fun e w' => e = .returned (.int .i64 0) ∧ w = w' := by
  have d0 : ((x : Int) == 0) = false := by simp; omega
  have e2 : IntKind.u64.wrap (1 * 285870213051353865) = 285870213051353865 := by decide
  clear hx
  go_enter Tryd.func13, Tryd.ntmps13
  go_wp2
  go_ret
  exact ⟨rfl, rfl⟩

set_option maxRecDepth 100000 in
set_option maxHeartbeats 400000 in
theorem tz_at1 (x : Nat) (w : World) (hx : x ≠ 0) (h : w.cell? ⟨0, 1, none⟩ = some (.int .u8 1)) (e1 : bits BinOp.and IntKind.u64 (x : Int) (IntKind.u64.wrap (-(x : Int))) = 2) :
    Calls Tryd.prog 13 #[.int .u64 x] w fun e w' => e = .returned (.int .i64 1) ∧ w = w' := by
  have d0 : ((x : Int) == 0) = false := by simp; omega
  have e2 : IntKind.u64.wrap (2 * 285870213051353865) = 571740426102707730 := by decide
  clear hx
  go_enter Tryd.func13, Tryd.ntmps13
  go_wp2
  go_ret
  exact ⟨rfl, rfl⟩

set_option maxRecDepth 100000 in
set_option maxHeartbeats 400000 in
theorem tz_at2 (x : Nat) (w : World) (hx : x ≠ 0) (h : w.cell? ⟨0, 3, none⟩ = some (.int .u8 2)) (e1 : bits BinOp.and IntKind.u64 (x : Int) (IntKind.u64.wrap (-(x : Int))) = 4) :
    Calls Tryd.prog 13 #[.int .u64 x] w fun e w' => e = .returned (.int .i64 2) ∧ w = w' := by
  have d0 : ((x : Int) == 0) = false := by simp; omega
  have e2 : IntKind.u64.wrap (4 * 285870213051353865) = 1143480852205415460 := by decide
  clear hx
  go_enter Tryd.func13, Tryd.ntmps13
  go_wp2
  go_ret
  exact ⟨rfl, rfl⟩

set_option maxRecDepth 100000 in
set_option maxHeartbeats 400000 in
theorem tz_at3 (x : Nat) (w : World) (hx : x ≠ 0) (h : w.cell? ⟨0, 7, none⟩ = some (.int .u8 3)) (e1 : bits BinOp.and IntKind.u64 (x : Int) (IntKind.u64.wrap (-(x : Int))) = 8) :
    Calls Tryd.prog 13 #[.int .u64 x] w fun e w' => e = .returned (.int .i64 3) ∧ w = w' := by
  have d0 : ((x : Int) == 0) = false := by simp; omega
  have e2 : IntKind.u64.wrap (8 * 285870213051353865) = 2286961704410830920 := by decide
  clear hx
  go_enter Tryd.func13, Tryd.ntmps13
  go_wp2
  go_ret
  exact ⟨rfl, rfl⟩

set_option maxRecDepth 100000 in
set_option maxHeartbeats 400000 in
theorem tz_at4 (x : Nat) (w : World) (hx : x ≠ 0) (h : w.cell? ⟨0, 15, none⟩ = some (.int .u8 4)) (e1 : bits BinOp.and IntKind.u64 (x : Int) (IntKind.u64.wrap (-(x : Int))) = 16) :
    Calls Tryd.prog 13 #[.int .u64 x] w fun e w' => e = .returned (.int .i64 4) ∧ w = w' := by
  have d0 : ((x : Int) == 0) = false := by simp; omega
  have e2 : IntKind.u64.wrap (16 * 285870213051353865) = 4573923408821661840 := by decide
  clear hx
  go_enter Tryd.func13, Tryd.ntmps13
  go_wp2
  go_ret
  exact ⟨rfl, rfl⟩

theorem tz_any (x : Nat) (w : World) (hx : x ≠ 0) (h32 : x < 32) (h : M.tz5 w) :
    Calls Tryd.prog 13 #[.int .u64 x] w fun e w' => e = .returned (.int .i64 (M.half x : Int)) ∧ w = w' := by
  have hb := M.low_bit ⟨x, h32⟩ hx
  simp only at hb
  have hl := M.half_lt x
  obtain ⟨c0, c1, c2, c3, c4⟩ := h
  generalize M.half x = k at hb hl ⊢
  have : k = 0 ∨ k = 1 ∨ k = 2 ∨ k = 3 ∨ k = 4 := by omega
  rcases this with rfl | rfl | rfl | rfl | rfl
  · exact tz_at0 x w hx c0 hb
  · exact tz_at1 x w hx c1 hb
  · exact tz_at2 x w hx c2 hb
  · exact tz_at3 x w hx c3 hb
  · exact tz_at4 x w hx c4 hb

set_option maxRecDepth 100000 in
set_option maxHeartbeats 3200000 in
theorem iLevel_good (N J p : Nat) (w : World) (ht : M.tz5 w) (h1 : 1 ≤ N) (h2 : N ≤ 6) (hp : p = 2 ^ (N - 1)) (hJ : J ≤ 9223372036854775807) :
    Calls Tryd.prog 6 #[.int .i64 N, .int .i64 J] w fun e w' => e = .returned (.int .i64 (M.lev N (J % p))) ∧ w = w' := by
  have hN : N = 1 ∨ N = 2 ∨ N = 3 ∨ N = 4 ∨ N = 5 ∨ N = 6 := by omega
  have hlt : J % p < p := Nat.mod_lt _ (by rw [hp]; exact Nat.pow_pos (by decide))
  have hp32 : p ≤ 32 := by rw [hp]; exact Nat.pow_le_pow_right (i := N - 1) (j := 5) (by decide) (by omega)
  obtain ⟨m, hm⟩ : ∃ m, m = J % p := ⟨_, rfl⟩
  by_cases h0 : m = 0
  · have FIN : Hid (M.lev N (J % p) = 0) := by show _ = _; rw [← hm, h0]; rfl
    have d0 := M.rem_zero (hm.symm.trans h0)
    clear hlt hp32 hm h0 ht m
    rcases hN with rfl | rfl | rfl | rfl | rfl | rfl <;> simp only [Nat.reduceSub, Nat.reducePow] at hp <;> subst hp <;> norm_cast at d0
    all_goals
      go_enter Tryd.func6, Tryd.ntmps6
      go_wp2
      go_ret
      exact ⟨by rw [FIN.out]; rfl, rfl⟩
  have hh := M.half_lt m
  have HT : Hid (Calls Tryd.prog 13 #[.int .u64 m] w fun e w' => e = .returned (.int .i64 (M.half m : Int)) ∧ w = w') := tz_any m w h0 (by omega) ht
  have FIN : Hid (M.lev N (J % p) = (N : Int) - 1 - (M.half m : Int)) := by show _ = _; rw [← hm, M.lev_pos h0]
  generalize M.half m = k at HT FIN hh
  have d0 := M.rem_pos (fun h => h0 (hm.trans h))
  have hmI : ((J : Int) % (p : Int)) = (m : Int) := by omega
  have hm32 : m < 32 := by omega
  clear hlt hp32 hm ht
  rcases hN with rfl | rfl | rfl | rfl | rfl | rfl <;> simp only [Nat.reduceSub, Nat.reducePow] at hp <;> subst hp
  · omega
  · have HE : Hid (M.lev ((2 : Nat) : Int) (J % 2) = 1 - (k : Int)) := FIN.out
    have hq : (J : Int) % 2 = (m : Int) := hmI
    have dq : (((m : Int)) == 0) = false := by simp; omega
    clear d0 hmI FIN
    go_enter Tryd.func6, Tryd.ntmps6
    go_wp2_with (go_at_call 13; refine HT.out.mono ?_; rintro e w' ⟨rfl, rfl⟩)
    go_ret
    exact ⟨by rw [HE.out]; rfl, rfl⟩
  · have HE : Hid (M.lev ((3 : Nat) : Int) (J % 4) = 2 - (k : Int)) := FIN.out
    have hq : (J : Int) % 4 = (m : Int) := hmI
    have dq : (((m : Int)) == 0) = false := by simp; omega
    clear d0 hmI FIN
    go_enter Tryd.func6, Tryd.ntmps6
    go_wp2_with (go_at_call 13; refine HT.out.mono ?_; rintro e w' ⟨rfl, rfl⟩)
    go_ret
    exact ⟨by rw [HE.out]; rfl, rfl⟩
  · have HE : Hid (M.lev ((4 : Nat) : Int) (J % 8) = 3 - (k : Int)) := FIN.out
    have hq : (J : Int) % 8 = (m : Int) := hmI
    have dq : (((m : Int)) == 0) = false := by simp; omega
    clear d0 hmI FIN
    go_enter Tryd.func6, Tryd.ntmps6
    go_wp2_with (go_at_call 13; refine HT.out.mono ?_; rintro e w' ⟨rfl, rfl⟩)
    go_ret
    exact ⟨by rw [HE.out]; rfl, rfl⟩
  · have HE : Hid (M.lev ((5 : Nat) : Int) (J % 16) = 4 - (k : Int)) := FIN.out
    have hq : (J : Int) % 16 = (m : Int) := hmI
    have dq : (((m : Int)) == 0) = false := by simp; omega
    clear d0 hmI FIN
    go_enter Tryd.func6, Tryd.ntmps6
    go_wp2_with (go_at_call 13; refine HT.out.mono ?_; rintro e w' ⟨rfl, rfl⟩)
    go_ret
    exact ⟨by rw [HE.out]; rfl, rfl⟩
  · have HE : Hid (M.lev ((6 : Nat) : Int) (J % 32) = 5 - (k : Int)) := FIN.out
    have hq : (J : Int) % 32 = (m : Int) := hmI
    have dq : (((m : Int)) == 0) = false := by simp; omega
    clear d0 hmI FIN
    go_enter Tryd.func6, Tryd.ntmps6
    go_wp2_with (go_at_call 13; refine HT.out.mono ?_; rintro e w' ⟨rfl, rfl⟩)
    go_ret
    exact ⟨by rw [HE.out]; rfl, rfl⟩

set_option maxHeartbeats 800000 in
theorem iLevel_any (n j : Int) (w : World) (ht : M.tz5 w) (h1 : -9223372036854775808 ≤ n) (h2 : n ≤ 9223372036854775807) (h3 : -9223372036854775808 ≤ j) (h4 : j ≤ 9223372036854775807) :
    Calls Tryd.prog 6 #[.int .i64 n, .int .i64 j] w fun e w' => e = .returned (.int .i64 (M.level n j)) ∧ w = w' := by
  by_cases hb : n < 1 ∨ 6 < n ∨ j < 0
  · rw [M.level_bad hb]
    clear ht
    by_cases hn : n < 1
    · have d0 : decide (n < 1) = true := decide_eq_true hn
      go_enter Tryd.func6, Tryd.ntmps6
      go_wp2
      go_ret
      exact ⟨rfl, rfl⟩
    · have d0 : decide (n < 1) = false := decide_eq_false hn
      by_cases hn6 : 6 < n
      · have d1 : decide (6 < n) = true := decide_eq_true hn6
        go_enter Tryd.func6, Tryd.ntmps6
        go_wp2
        go_ret
        exact ⟨rfl, rfl⟩
      · have d1 : decide (6 < n) = false := decide_eq_false hn6
        have d2 : decide (j < 0) = true := decide_eq_true (by omega)
        go_enter Tryd.func6, Tryd.ntmps6
        go_wp2
        go_ret
        exact ⟨rfl, rfl⟩
  · obtain ⟨N, rfl⟩ := Int.eq_ofNat_of_zero_le (show 0 ≤ n by omega)
    obtain ⟨J, rfl⟩ := Int.eq_ofNat_of_zero_le (show 0 ≤ j by omega)
    rw [M.level_at (by omega) (by omega) rfl]
    exact iLevel_good N J _ w ht (by omega) (by omega) rfl (by omega)
end Go.Proofs.YtcpmfkmohfmaaaaDoor
