/-
  What promise 9 asks of LevelAt, at every draw.
-/
import Derived.Test.YtcpmfkmohfmaaaaDoorLevelLaw
import Derived.Test.YtcpmfkmohfmaaaaDoorEdgeWalk
import Derived.Test.YtcpmfkmohfmaaaaDoorLwAt
namespace Go.Proofs.YtcpmfkmohfmaaaaDoor
open Go.RowKit

theorem M.level_cycle {m k p : Nat} (h1 : 1 ≤ m) (h2 : m ≤ 6) (hp : p = 2 ^ (m - 1)) : M.level (m : Int) ((k + p : Nat) : Int) = M.level (m : Int) (k : Int) := by
  rw [M.level_at h1 h2 hp, M.level_at h1 h2 hp, Nat.add_mod_right]
theorem M.level_start {m : Nat} (h1 : 1 ≤ m) (h2 : m ≤ 6) : M.level (m : Int) ((0 : Nat) : Int) = 0 := by
  rw [M.level_at h1 h2 rfl, Nat.zero_mod]; rfl
theorem M.lev_odd : ∀ (m : Fin 7) (r : Fin 32), 2 ≤ m.val → r.val % 2 = 1 → M.lev (m.val : Int) r.val = (m.val : Int) - 1 := of_decide_eq_true (by kernel_rfl)
theorem M.lev_even : ∀ (m : Fin 7) (r : Fin 16), 2 ≤ m.val → M.lev (m.val : Int) (2 * r.val) = M.lev ((m.val : Int) - 1) r.val := of_decide_eq_true (by kernel_rfl)
theorem M.level_odd {m k : Nat} (h1 : 2 ≤ m) (h2 : m ≤ 6) : M.level (m : Int) ((2 * k + 1 : Nat) : Int) = (m : Int) - 1 := by
  rw [M.level_at (by omega) h2 rfl]
  have hp : 2 ^ (m - 1) ≤ 32 := Nat.pow_le_pow_right (i := m - 1) (j := 5) (by decide) (by omega)
  have hlt : (2 * k + 1) % 2 ^ (m - 1) < 2 ^ (m - 1) := Nat.mod_lt _ (Nat.pow_pos (by decide))
  have hd : (2 * k + 1) % 2 ^ (m - 1) % 2 = 1 := by
    rw [Nat.mod_mod_of_dvd _ (Nat.pow_dvd_pow 2 (m := 1) (by omega))]; omega
  exact M.lev_odd ⟨m, by omega⟩ ⟨(2 * k + 1) % 2 ^ (m - 1), by omega⟩ h1 hd
theorem M.level_even {m k : Nat} (h1 : 2 ≤ m) (h2 : m ≤ 6) : M.level (m : Int) ((2 * k : Nat) : Int) = M.level ((m - 1 : Nat) : Int) (k : Int) := by
  rw [M.level_at (by omega) h2 rfl, M.level_at (by omega) (by omega) rfl]
  have hp : 2 ^ (m - 1 - 1) ≤ 16 := Nat.pow_le_pow_right (i := m - 1 - 1) (j := 4) (by decide) (by omega)
  have hlt : k % 2 ^ (m - 1 - 1) < 2 ^ (m - 1 - 1) := Nat.mod_lt _ (Nat.pow_pos (by decide))
  have he : 2 * k % 2 ^ (m - 1) = 2 * (k % 2 ^ (m - 1 - 1)) := by
    rw [show m - 1 = (m - 1 - 1) + 1 by omega, Nat.pow_succ, Nat.mul_comm _ 2, Nat.mul_mod_mul_left]; simp
  rw [he, show ((m - 1 : Nat) : Int) = (m : Int) - 1 by omega]
  exact M.lev_even ⟨m, by omega⟩ ⟨k % 2 ^ (m - 1 - 1), by omega⟩ h1

set_option maxRecDepth 100000 in
set_option maxHeartbeats 800000 in
theorem drawLevelAt_any (w : World) (a : Option Addr) (len cap : Nat) (hR : M.IsRow w a len cap) :
    Calls Tryd.prog 5 #[.slice a len cap] w fun e w' => ∃ n j : Int, e = .returned (.tuple #[.int .i64 n, .int .i64 j]) ∧ (-9223372036854775808 ≤ n ∧ n ≤ 9223372036854775807) ∧ (-9223372036854775808 ≤ j ∧ j ≤ 9223372036854775807) ∧ Below w.heap.size w w' := by
  have HR : Hid (M.IsRow w a len cap) := hR
  clear hR
  go_enter Tryd.func5, Tryd.ntmps5
  go_wp2_with fail
  refine (source_any _ a len cap HR.out).mono ?_
  rintro e w1 ⟨rfl, hS, hb⟩
  have HS1 : Hid (M.Src w.heap.size a len cap w1) := hS
  have HB : Hid (Below w.heap.size w w1) := hb
  clear hS hb
  have UP : Hid (∀ {W W' : World}, Below w.heap.size w W → W.grownBy W' (some w.heap.size) → Below w.heap.size w W') := fun hB hg => hB.grown hg hB.size (fun k hk => by have := Option.some.inj hk; omega)
  go_wp2_with fail
  refine (src_one _ _ len cap a 8 HS1.out (by omega)).mono ?_
  rintro e w2 ⟨v, rfl, hS, hg⟩
  have HS2 : Hid (M.Src w.heap.size a len cap w2) := hS
  have HB2 : Hid (Below w.heap.size w w2) := UP.out HB.out hg
  clear hS hg
  cases v
  · go_wp2_with fail
    refine (src_n _ _ len cap a 6 HS2.out (by omega)).mono ?_
    rintro e w3 ⟨v, rfl, h0, h1, h2, hS, hg⟩
    have h6 := h1 (by omega)
    have HS3 : Hid (M.Src w.heap.size a len cap w3) := hS
    have HB3 : Hid (Below w.heap.size w w3) := UP.out HB2.out hg
    clear hS hg h1 h2
    go_wp2_with fail
    refine (src_n _ _ len cap a 70 HS3.out (by omega)).mono ?_
    rintro e w4 ⟨u, rfl, u0, u1, u2, hS, hg⟩
    have u6 := u1 (by omega)
    have HB4 : Hid (Below w.heap.size w w4) := UP.out HB3.out hg
    clear hS hg u1 u2
    go_wp2
    go_ret2
    exact ⟨_, _, rfl, ⟨by omega, by omega⟩, ⟨by omega, by omega⟩, HB4.out⟩
  · go_wp2_with fail
    refine (src_n _ _ len cap a 9 HS2.out (by omega)).mono ?_
    rintro e w3 ⟨v, rfl, h0, h1, h2, hS, hg⟩
    have h6 := h1 (by omega)
    have HS3 : Hid (M.Src w.heap.size a len cap w3) := hS
    have HB3 : Hid (Below w.heap.size w w3) := UP.out HB2.out hg
    clear hS hg h1 h2
    go_wp2_with fail
    refine (src_edge _ _ len cap a HS3.out).mono ?_
    rintro e w4 ⟨u, rfl, u0, u1, hS, hg⟩
    have HB4 : Hid (Below w.heap.size w w4) := UP.out HB3.out hg
    clear hS hg
    go_wp2
    go_ret2
    exact ⟨_, _, rfl, ⟨by omega, by omega⟩, ⟨u0, u1⟩, HB4.out⟩

theorem M.isRow_below {w w' : World} {a : Option Addr} {len cap : Nat} (h : M.IsRow w a len cap) (hb : Below w.heap.size w w') : M.IsRow w' a len cap := by
  obtain ⟨h1, h2, h3⟩ := h
  refine ⟨h1, h2, fun hl => ?_⟩
  obtain ⟨b, off, rfl, hz⟩ := h3 hl
  refine ⟨b, off, rfl, fun i hi => ?_⟩
  obtain ⟨z, hz0, hz9, cz⟩ := hz i hi
  exact ⟨z, hz0, hz9, by rw [hb.cell (p := ⟨b, off + i, none⟩) (World.block_lt_of_cell? w ⟨b, off + i, none⟩ cz)]; exact cz⟩

set_option maxRecDepth 100000 in
set_option maxHeartbeats 3200000 in
theorem fnHanoi_in (a0 : Option Addr) (len0 cap0 : Nat) (a1 : Option Addr) (len1 cap1 : Nat) (w : World) (hR0 : M.IsRow w a0 len0 cap0) (hR1 : M.IsRow w a1 len1 cap1) (ht : M.tz5 w) (h0 : len0 ≤ 1048576) (h1 : len1 ≤ 1048576) :
    Calls Tryd.prog 3 #[.slice a0 len0 cap0, .slice a1 len1 cap1] w fun e w' => e = .returned (.bool true) ∧ Below w.heap.size w w' := by
  have HR0 : Hid (M.IsRow w a0 len0 cap0) := hR0
  have HR1 : Hid (M.IsRow w a1 len1 cap1) := hR1
  have HT : Hid (M.tz5 w) := ht
  clear hR0 hR1 ht
  go_enter Tryd.func3, Tryd.ntmps3
  go_wp2_with fail
  refine (drawLevelAt_any _ a0 len0 cap0 HR0.out).mono ?_
  rintro e w1 ⟨n, j, rfl, hn, hj, hb⟩
  have HT1 : Hid (M.tz5 w1) := HT.out.below hb
  have HR : Hid (M.IsRow w1 a1 len1 cap1) := M.isRow_below HR1.out hb
  have HB : Hid (Below w.heap.size w w1) := hb
  clear hb
  obtain ⟨b, hb⟩ : ∃ b, M.level n j = b := ⟨_, rfl⟩
  have H1 : Hid (Calls Tryd.prog 7 #[.int .i64 n, .int .i64 j] w1 fun e w' => e = .returned (.int .i64 b) ∧ w1 = w') := by have := sLevel_any n j w1 hn.1 hn.2 hj.1 hj.2; rwa [hb] at this
  have H2 : Hid (Calls Tryd.prog 6 #[.int .i64 n, .int .i64 j] w1 fun e w' => e = .returned (.int .i64 b) ∧ w1 = w') := by have := iLevel_any n j w1 HT1.out hn.1 hn.2 hj.1 hj.2; rwa [hb] at this
  clear hb hn hj
  go_wp2_with fail
  refine H2.out.mono ?_
  rintro e w' ⟨rfl, rfl⟩
  go_wp2_with fail
  refine H1.out.mono ?_
  rintro e w' ⟨rfl, rfl⟩
  clear H1 H2
  go_wp2_with fail
  refine (lwAt_any _ a1 len1 cap1 0 6 HR.out (by omega) (by omega)).mono ?_
  rintro e w' ⟨v, rfl, ⟨v0, v1, -⟩, rfl⟩
  have v6 := v1 (by omega)
  clear v1
  go_wp2_with fail
  refine (lwAt_any _ a1 len1 cap1 1 256 HR.out (by omega) (by omega)).mono ?_
  rintro e w' ⟨u, rfl, ⟨u0, u1, -⟩, rfl⟩
  have u6 := u1 (by omega)
  clear u1
  obtain ⟨K, rfl⟩ := Int.eq_ofNat_of_zero_le u0
  have HL : Hid (∀ (n j : Nat) (b : Int), n ≤ 1000 → j ≤ 1000 → M.level (n : Int) (j : Int) = b → Calls Tryd.prog 6 #[.int .i64 n, .int .i64 j] w1 fun e w' => e = .returned (.int .i64 b) ∧ w1 = w') := fun n j b hn hj hb => by
    have := iLevel_any n j w1 HT1.out (by omega) (by omega) (by omega) (by omega); rwa [hb] at this
  have hv : v = 0 ∨ v = 1 ∨ v = 2 ∨ v = 3 ∨ v = 4 ∨ v = 5 := by omega
  clear v0 v6 u0
  rcases hv with rfl | rfl | rfl | rfl | rfl | rfl
  · obtain ⟨v, hv⟩ : ∃ v, M.level ((1 : Nat) : Int) (K : Int) = v := ⟨_, rfl⟩
    have C1 : Hid (Calls Tryd.prog 6 #[.int .i64 1, .int .i64 ((K : Int) + 1)] w1 fun e w' => e = .returned (.int .i64 v) ∧ w1 = w') := HL.out 1 (K + 1) v (by omega) (by omega) ((M.level_cycle (m := 1) (k := K) (p := 1) (by omega) (by omega) (by decide)).trans hv)
    have C2 : Hid (Calls Tryd.prog 6 #[.int .i64 1, .int .i64 (K : Int)] w1 fun e w' => e = .returned (.int .i64 v) ∧ w1 = w') := HL.out 1 K v (by omega) (by omega) hv
    have C3 : Hid (Calls Tryd.prog 6 #[.int .i64 1, .int .i64 0] w1 fun e w' => e = .returned (.int .i64 0) ∧ w1 = w') := HL.out 1 0 0 (by omega) (by omega) (M.level_start (m := 1) (by omega) (by omega))
    clear hv HL
    go_wp2_with fail
    refine C1.out.mono ?_
    rintro e w' ⟨rfl, rfl⟩
    go_wp2_with fail
    refine C2.out.mono ?_
    rintro e w' ⟨rfl, rfl⟩
    go_wp2_with fail
    refine C3.out.mono ?_
    rintro e w' ⟨rfl, rfl⟩
    go_wp2
    go_ret
    exact ⟨rfl, HB.out⟩
  · obtain ⟨v, hv⟩ : ∃ v, M.level ((2 : Nat) : Int) (K : Int) = v := ⟨_, rfl⟩
    have C1 : Hid (Calls Tryd.prog 6 #[.int .i64 2, .int .i64 ((K : Int) + 2)] w1 fun e w' => e = .returned (.int .i64 v) ∧ w1 = w') := HL.out 2 (K + 2) v (by omega) (by omega) ((M.level_cycle (m := 2) (k := K) (p := 2) (by omega) (by omega) (by decide)).trans hv)
    have C2 : Hid (Calls Tryd.prog 6 #[.int .i64 2, .int .i64 (K : Int)] w1 fun e w' => e = .returned (.int .i64 v) ∧ w1 = w') := HL.out 2 K v (by omega) (by omega) hv
    have C3 : Hid (Calls Tryd.prog 6 #[.int .i64 2, .int .i64 0] w1 fun e w' => e = .returned (.int .i64 0) ∧ w1 = w') := HL.out 2 0 0 (by omega) (by omega) (M.level_start (m := 2) (by omega) (by omega))
    obtain ⟨u, hu⟩ : ∃ u, M.level ((1 : Nat) : Int) (K : Int) = u := ⟨_, rfl⟩
    have C4 : Hid (Calls Tryd.prog 6 #[.int .i64 2, .int .i64 (2 * (K : Int) + 1)] w1 fun e w' => e = .returned (.int .i64 1) ∧ w1 = w') := HL.out 2 (2 * K + 1) 1 (by omega) (by omega) (M.level_odd (m := 2) (k := K) (by omega) (by omega))
    have C5 : Hid (Calls Tryd.prog 6 #[.int .i64 2, .int .i64 (2 * (K : Int))] w1 fun e w' => e = .returned (.int .i64 u) ∧ w1 = w') := HL.out 2 (2 * K) u (by omega) (by omega) ((M.level_even (m := 2) (k := K) (by omega) (by omega)).trans hu)
    have C6 : Hid (Calls Tryd.prog 6 #[.int .i64 1, .int .i64 (K : Int)] w1 fun e w' => e = .returned (.int .i64 u) ∧ w1 = w') := HL.out 1 K u (by omega) (by omega) hu
    clear hu
    clear hv HL
    go_wp2_with fail
    refine C1.out.mono ?_
    rintro e w' ⟨rfl, rfl⟩
    go_wp2_with fail
    refine C2.out.mono ?_
    rintro e w' ⟨rfl, rfl⟩
    go_wp2_with fail
    refine C3.out.mono ?_
    rintro e w' ⟨rfl, rfl⟩
    go_wp2_with fail
    refine C4.out.mono ?_
    rintro e w' ⟨rfl, rfl⟩
    go_wp2_with fail
    refine C5.out.mono ?_
    rintro e w' ⟨rfl, rfl⟩
    go_wp2_with fail
    refine C6.out.mono ?_
    rintro e w' ⟨rfl, rfl⟩
    go_wp2
    go_ret
    exact ⟨rfl, HB.out⟩
  · obtain ⟨v, hv⟩ : ∃ v, M.level ((3 : Nat) : Int) (K : Int) = v := ⟨_, rfl⟩
    have C1 : Hid (Calls Tryd.prog 6 #[.int .i64 3, .int .i64 ((K : Int) + 4)] w1 fun e w' => e = .returned (.int .i64 v) ∧ w1 = w') := HL.out 3 (K + 4) v (by omega) (by omega) ((M.level_cycle (m := 3) (k := K) (p := 4) (by omega) (by omega) (by decide)).trans hv)
    have C2 : Hid (Calls Tryd.prog 6 #[.int .i64 3, .int .i64 (K : Int)] w1 fun e w' => e = .returned (.int .i64 v) ∧ w1 = w') := HL.out 3 K v (by omega) (by omega) hv
    have C3 : Hid (Calls Tryd.prog 6 #[.int .i64 3, .int .i64 0] w1 fun e w' => e = .returned (.int .i64 0) ∧ w1 = w') := HL.out 3 0 0 (by omega) (by omega) (M.level_start (m := 3) (by omega) (by omega))
    obtain ⟨u, hu⟩ : ∃ u, M.level ((2 : Nat) : Int) (K : Int) = u := ⟨_, rfl⟩
    have C4 : Hid (Calls Tryd.prog 6 #[.int .i64 3, .int .i64 (2 * (K : Int) + 1)] w1 fun e w' => e = .returned (.int .i64 2) ∧ w1 = w') := HL.out 3 (2 * K + 1) 2 (by omega) (by omega) (M.level_odd (m := 3) (k := K) (by omega) (by omega))
    have C5 : Hid (Calls Tryd.prog 6 #[.int .i64 3, .int .i64 (2 * (K : Int))] w1 fun e w' => e = .returned (.int .i64 u) ∧ w1 = w') := HL.out 3 (2 * K) u (by omega) (by omega) ((M.level_even (m := 3) (k := K) (by omega) (by omega)).trans hu)
    have C6 : Hid (Calls Tryd.prog 6 #[.int .i64 2, .int .i64 (K : Int)] w1 fun e w' => e = .returned (.int .i64 u) ∧ w1 = w') := HL.out 2 K u (by omega) (by omega) hu
    clear hu
    clear hv HL
    go_wp2_with fail
    refine C1.out.mono ?_
    rintro e w' ⟨rfl, rfl⟩
    go_wp2_with fail
    refine C2.out.mono ?_
    rintro e w' ⟨rfl, rfl⟩
    go_wp2_with fail
    refine C3.out.mono ?_
    rintro e w' ⟨rfl, rfl⟩
    go_wp2_with fail
    refine C4.out.mono ?_
    rintro e w' ⟨rfl, rfl⟩
    go_wp2_with fail
    refine C5.out.mono ?_
    rintro e w' ⟨rfl, rfl⟩
    go_wp2_with fail
    refine C6.out.mono ?_
    rintro e w' ⟨rfl, rfl⟩
    go_wp2
    go_ret
    exact ⟨rfl, HB.out⟩
  · obtain ⟨v, hv⟩ : ∃ v, M.level ((4 : Nat) : Int) (K : Int) = v := ⟨_, rfl⟩
    have C1 : Hid (Calls Tryd.prog 6 #[.int .i64 4, .int .i64 ((K : Int) + 8)] w1 fun e w' => e = .returned (.int .i64 v) ∧ w1 = w') := HL.out 4 (K + 8) v (by omega) (by omega) ((M.level_cycle (m := 4) (k := K) (p := 8) (by omega) (by omega) (by decide)).trans hv)
    have C2 : Hid (Calls Tryd.prog 6 #[.int .i64 4, .int .i64 (K : Int)] w1 fun e w' => e = .returned (.int .i64 v) ∧ w1 = w') := HL.out 4 K v (by omega) (by omega) hv
    have C3 : Hid (Calls Tryd.prog 6 #[.int .i64 4, .int .i64 0] w1 fun e w' => e = .returned (.int .i64 0) ∧ w1 = w') := HL.out 4 0 0 (by omega) (by omega) (M.level_start (m := 4) (by omega) (by omega))
    obtain ⟨u, hu⟩ : ∃ u, M.level ((3 : Nat) : Int) (K : Int) = u := ⟨_, rfl⟩
    have C4 : Hid (Calls Tryd.prog 6 #[.int .i64 4, .int .i64 (2 * (K : Int) + 1)] w1 fun e w' => e = .returned (.int .i64 3) ∧ w1 = w') := HL.out 4 (2 * K + 1) 3 (by omega) (by omega) (M.level_odd (m := 4) (k := K) (by omega) (by omega))
    have C5 : Hid (Calls Tryd.prog 6 #[.int .i64 4, .int .i64 (2 * (K : Int))] w1 fun e w' => e = .returned (.int .i64 u) ∧ w1 = w') := HL.out 4 (2 * K) u (by omega) (by omega) ((M.level_even (m := 4) (k := K) (by omega) (by omega)).trans hu)
    have C6 : Hid (Calls Tryd.prog 6 #[.int .i64 3, .int .i64 (K : Int)] w1 fun e w' => e = .returned (.int .i64 u) ∧ w1 = w') := HL.out 3 K u (by omega) (by omega) hu
    clear hu
    clear hv HL
    go_wp2_with fail
    refine C1.out.mono ?_
    rintro e w' ⟨rfl, rfl⟩
    go_wp2_with fail
    refine C2.out.mono ?_
    rintro e w' ⟨rfl, rfl⟩
    go_wp2_with fail
    refine C3.out.mono ?_
    rintro e w' ⟨rfl, rfl⟩
    go_wp2_with fail
    refine C4.out.mono ?_
    rintro e w' ⟨rfl, rfl⟩
    go_wp2_with fail
    refine C5.out.mono ?_
    rintro e w' ⟨rfl, rfl⟩
    go_wp2_with fail
    refine C6.out.mono ?_
    rintro e w' ⟨rfl, rfl⟩
    go_wp2
    go_ret
    exact ⟨rfl, HB.out⟩
  · obtain ⟨v, hv⟩ : ∃ v, M.level ((5 : Nat) : Int) (K : Int) = v := ⟨_, rfl⟩
    have C1 : Hid (Calls Tryd.prog 6 #[.int .i64 5, .int .i64 ((K : Int) + 16)] w1 fun e w' => e = .returned (.int .i64 v) ∧ w1 = w') := HL.out 5 (K + 16) v (by omega) (by omega) ((M.level_cycle (m := 5) (k := K) (p := 16) (by omega) (by omega) (by decide)).trans hv)
    have C2 : Hid (Calls Tryd.prog 6 #[.int .i64 5, .int .i64 (K : Int)] w1 fun e w' => e = .returned (.int .i64 v) ∧ w1 = w') := HL.out 5 K v (by omega) (by omega) hv
    have C3 : Hid (Calls Tryd.prog 6 #[.int .i64 5, .int .i64 0] w1 fun e w' => e = .returned (.int .i64 0) ∧ w1 = w') := HL.out 5 0 0 (by omega) (by omega) (M.level_start (m := 5) (by omega) (by omega))
    obtain ⟨u, hu⟩ : ∃ u, M.level ((4 : Nat) : Int) (K : Int) = u := ⟨_, rfl⟩
    have C4 : Hid (Calls Tryd.prog 6 #[.int .i64 5, .int .i64 (2 * (K : Int) + 1)] w1 fun e w' => e = .returned (.int .i64 4) ∧ w1 = w') := HL.out 5 (2 * K + 1) 4 (by omega) (by omega) (M.level_odd (m := 5) (k := K) (by omega) (by omega))
    have C5 : Hid (Calls Tryd.prog 6 #[.int .i64 5, .int .i64 (2 * (K : Int))] w1 fun e w' => e = .returned (.int .i64 u) ∧ w1 = w') := HL.out 5 (2 * K) u (by omega) (by omega) ((M.level_even (m := 5) (k := K) (by omega) (by omega)).trans hu)
    have C6 : Hid (Calls Tryd.prog 6 #[.int .i64 4, .int .i64 (K : Int)] w1 fun e w' => e = .returned (.int .i64 u) ∧ w1 = w') := HL.out 4 K u (by omega) (by omega) hu
    clear hu
    clear hv HL
    go_wp2_with fail
    refine C1.out.mono ?_
    rintro e w' ⟨rfl, rfl⟩
    go_wp2_with fail
    refine C2.out.mono ?_
    rintro e w' ⟨rfl, rfl⟩
    go_wp2_with fail
    refine C3.out.mono ?_
    rintro e w' ⟨rfl, rfl⟩
    go_wp2_with fail
    refine C4.out.mono ?_
    rintro e w' ⟨rfl, rfl⟩
    go_wp2_with fail
    refine C5.out.mono ?_
    rintro e w' ⟨rfl, rfl⟩
    go_wp2_with fail
    refine C6.out.mono ?_
    rintro e w' ⟨rfl, rfl⟩
    go_wp2
    go_ret
    exact ⟨rfl, HB.out⟩
  · obtain ⟨v, hv⟩ : ∃ v, M.level ((6 : Nat) : Int) (K : Int) = v := ⟨_, rfl⟩
    have C1 : Hid (Calls Tryd.prog 6 #[.int .i64 6, .int .i64 ((K : Int) + 32)] w1 fun e w' => e = .returned (.int .i64 v) ∧ w1 = w') := HL.out 6 (K + 32) v (by omega) (by omega) ((M.level_cycle (m := 6) (k := K) (p := 32) (by omega) (by omega) (by decide)).trans hv)
    have C2 : Hid (Calls Tryd.prog 6 #[.int .i64 6, .int .i64 (K : Int)] w1 fun e w' => e = .returned (.int .i64 v) ∧ w1 = w') := HL.out 6 K v (by omega) (by omega) hv
    have C3 : Hid (Calls Tryd.prog 6 #[.int .i64 6, .int .i64 0] w1 fun e w' => e = .returned (.int .i64 0) ∧ w1 = w') := HL.out 6 0 0 (by omega) (by omega) (M.level_start (m := 6) (by omega) (by omega))
    obtain ⟨u, hu⟩ : ∃ u, M.level ((5 : Nat) : Int) (K : Int) = u := ⟨_, rfl⟩
    have C4 : Hid (Calls Tryd.prog 6 #[.int .i64 6, .int .i64 (2 * (K : Int) + 1)] w1 fun e w' => e = .returned (.int .i64 5) ∧ w1 = w') := HL.out 6 (2 * K + 1) 5 (by omega) (by omega) (M.level_odd (m := 6) (k := K) (by omega) (by omega))
    have C5 : Hid (Calls Tryd.prog 6 #[.int .i64 6, .int .i64 (2 * (K : Int))] w1 fun e w' => e = .returned (.int .i64 u) ∧ w1 = w') := HL.out 6 (2 * K) u (by omega) (by omega) ((M.level_even (m := 6) (k := K) (by omega) (by omega)).trans hu)
    have C6 : Hid (Calls Tryd.prog 6 #[.int .i64 5, .int .i64 (K : Int)] w1 fun e w' => e = .returned (.int .i64 u) ∧ w1 = w') := HL.out 5 K u (by omega) (by omega) hu
    clear hu
    clear hv HL
    go_wp2_with fail
    refine C1.out.mono ?_
    rintro e w' ⟨rfl, rfl⟩
    go_wp2_with fail
    refine C2.out.mono ?_
    rintro e w' ⟨rfl, rfl⟩
    go_wp2_with fail
    refine C3.out.mono ?_
    rintro e w' ⟨rfl, rfl⟩
    go_wp2_with fail
    refine C4.out.mono ?_
    rintro e w' ⟨rfl, rfl⟩
    go_wp2_with fail
    refine C5.out.mono ?_
    rintro e w' ⟨rfl, rfl⟩
    go_wp2_with fail
    refine C6.out.mono ?_
    rintro e w' ⟨rfl, rfl⟩
    go_wp2
    go_ret
    exact ⟨rfl, HB.out⟩

theorem fnHanoi_walk (a0 : Option Addr) (len0 cap0 : Nat) (a1 : Option Addr) (len1 cap1 : Nat) (w : World) (hR0 : M.IsRow w a0 len0 cap0) (hR1 : M.IsRow w a1 len1 cap1) (ht : M.tz5 w) :
    Calls Tryd.prog 3 #[.slice a0 len0 cap0, .slice a1 len1 cap1] w fun e w' => e = .returned (.bool true) ∧ Below w.heap.size w w' := by
  have hl0 := hR0.len_le
  have hl1 := hR1.len_le
  by_cases h0 : 1048576 < len0
  · have d0 : decide ((1048576 : Int) < (len0 : Int)) = true := decide_eq_true (by omega)
    clear hR0 hR1 ht
    go_enter Tryd.func3, Tryd.ntmps3
    go_wp2
    go_ret
    exact ⟨rfl, Below.refl _ _⟩
  by_cases h1 : 1048576 < len1
  · have d0 : decide ((1048576 : Int) < (len0 : Int)) = false := decide_eq_false (by omega)
    have d1 : decide ((1048576 : Int) < (len1 : Int)) = true := decide_eq_true (by omega)
    clear hR0 hR1 ht
    go_enter Tryd.func3, Tryd.ntmps3
    go_wp2
    go_ret
    exact ⟨rfl, Below.refl _ _⟩
  exact fnHanoi_in a0 len0 cap0 a1 len1 cap1 w hR0 hR1 ht (by omega) (by omega)
end Go.Proofs.YtcpmfkmohfmaaaaDoor
