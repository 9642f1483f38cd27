/-
  What the laws' helpers on receivers do: szReceiver, toReceiver, eqReceiver.
-/
import Derived.Test.YtafenhodfoflbabLinkBox
import Derived.Test.YtafenhodfoflbabStrWalks
namespace Go.Proofs.Ytafenhodfoflbab
open Go.RowKit

set_option maxRecDepth 100000 in
set_option maxHeartbeats 800000 in
theorem szRecv_any (w : World) (a : Option Addr) (n c : Nat) (ss : List ByteArray) (x : Int) (h : M.Strs w a n c ss) (hok : ∀ s ∈ ss, s.size ≤ maxLen) :
    Calls Try.prog 23 #[.agg #[.slice a n c, .int .i64 x], .int .i64 1048576] w fun e w' => ∃ v : Int, e = .returned (.int .i64 v) ∧ v ≤ 1048576 ∧ (0 ≤ v → (n : Int) ≤ 1048576 ∧ ∀ s ∈ ss, (s.size : Int) ≤ 1048576) ∧ Below w.heap.size w w' := by
  have HB : Hid (∀ o, Below w.heap.size w (w.alloc o)) := fun o => (Below.refl _ _).alloc (Nat.le_refl _) _
  have CS : Hid (∀ o, Calls Try.prog 35 #[.slice a n c, .int .i64 1048576] (w.alloc o) fun e w' => ∃ v : Int, e = .returned (.int .i64 v) ∧ v ≤ 1048576 ∧ (0 ≤ v → (n : Int) ≤ 1048576 ∧ ∀ s ∈ ss, (s.size : Int) ≤ 1048576) ∧ w.alloc o = w') := fun o => szStringS_any _ a n c ss 1048576 (h.below (HB.out o)) hok (by omega) (by omega)
  clear h hok
  go_enter Try.func23, Try.ntmps23
  go_wp2_with fail
  refine (CS.out _).mono ?_
  rintro e w1 ⟨v, rfl, hv1, hv2, rfl⟩
  have HV2 := M.hl hv2
  clear hv2
  by_cases hneg : v < 0
  · go_wp2
    go_ret
    exact ⟨-1, rfl, by omega, fun h => by omega, HB.out _⟩
  · go_wp2
    go_ret
    exact ⟨v, rfl, hv1, HV2.out, HB.out _⟩

set_option maxRecDepth 100000 in
set_option maxHeartbeats 1600000 in
theorem toRecv_any (w : World) (a : Option Addr) (n c : Nat) (ss : List ByteArray) (x : Int) (h : M.Strs w a n c ss) (hl : n ≤ 1048576) :
    Calls Try.prog 25 #[.agg #[.slice a n c, .int .i64 x]] w fun e w' => ∃ b : Nat, e = .returned (.agg #[.slice (some ⟨b, 0, none⟩) n n, .int .i64 x]) ∧
      M.Strs w' (some ⟨b, 0, none⟩) n n ss ∧ M.Row w' b 9 n ∧ w.heap.size ≤ b ∧ Below w.heap.size w w' := by
  have HB : Hid (∀ o1 o2 o3, Below w.heap.size w (((w.alloc o1).alloc o2).alloc o3)) := fun o1 o2 o3 => (((Below.refl _ _).alloc (Nat.le_refl _) _).alloc (by simp) _).alloc (by simp; omega) _
  have CS : Hid (∀ o1 o2 o3, Calls Try.prog 38 #[.slice a n c] (((w.alloc o1).alloc o2).alloc o3) fun e w' => e = .returned (.slice (some ⟨w.heap.size + 1 + 1 + 1, 0, none⟩) n n) ∧ M.StrsAt w' (w.heap.size + 1 + 1 + 1) 0 ss ∧ M.Row w' (w.heap.size + 1 + 1 + 1) 9 n ∧ Below (((w.alloc o1).alloc o2).alloc o3).heap.size (((w.alloc o1).alloc o2).alloc o3) w') := fun o1 o2 o3 => by
    have := toStringS_any (((w.alloc o1).alloc o2).alloc o3) a n c ss (h.below (HB.out o1 o2 o3)) hl
    simpa using this
  have HN : Hid (n = ss.length) := h.1
  clear h
  go_enter Try.func25, Try.ntmps25
  go_wp2_with fail
  refine (CS.out _ _ _).mono ?_
  rintro e w1 ⟨rfl, hat, hrow, hb⟩
  have A1 := M.hl hat
  have R1 := M.hl hrow
  have B1 : Hid (Below w.heap.size w w1) := (HB.out _ _ _).trans (hb.mono (HB.out _ _ _).size)
  obtain ⟨t0, t1, t2⟩ := M.thr3 w (.cells #[.slice a n c, .int .i64 x] 43) (.cells #[.slice none 0 0, .int .i64 0] 32) (.cells #[.slice none 0 0, .int .i64 0] 32)
  have u0 := (hb.block w.heap.size (by simp; omega)).trans t0
  have u1 := (hb.block (w.heap.size + 1) (by simp)).trans t1
  have u2 := (hb.block (w.heap.size + 1 + 1) (by simp)).trans t2
  have k1 := M.bk_cell u0 1 (.int .i64 x) rfl
  have r0 := M.bk_cell u1 0 (.slice none 0 0) rfl
  have r1 := M.bk_cell u1 1 (.int .i64 0) rfl
  have s0 := M.bk_cell u2 0 (.slice none 0 0) rfl
  have s1 := M.bk_cell u2 1 (.int .i64 0) rfl
  have fr := M.bk_free u1
  have ft := M.bk_free u2
  clear hat hrow hb t0 t1 t2 u0 u1 u2
  go_wp2
  refine bodyPost_ret (v := .agg #[.slice (some ⟨w.heap.size + 1 + 1 + 1, 0, none⟩) n n, .int .i64 x]) (by simp [results, Try.results25, go_sem, r0, r1]) rfl ⟨_, rfl, ?_⟩
  refine ⟨⟨HN.out, Nat.le_refl _, by unfold maxLen; omega, fun _ => ⟨_, 0, rfl, ?_⟩⟩, ?_, by omega, ?_⟩
  · exact A1.out.of_block (by rw [M.setfr (by omega), M.setfr (by omega), M.setfr (by omega), M.setfr (by omega)])
  · exact R1.out.of_block (by rw [M.setfr (by omega), M.setfr (by omega), M.setfr (by omega), M.setfr (by omega)])
  · exact (((B1.out.setCell (by simp; omega) _).setCell (by simp; omega) _).setCell (by simp) _).setCell (by simp) _

set_option maxRecDepth 100000 in
set_option maxHeartbeats 800000 in
theorem eqRecv_same (w : World) (a b : Option Addr) (n c m d : Nat) (ss : List ByteArray) (x : Int) (h : M.Strs w a n c ss) (k : M.Strs w b m d ss) :
    Calls Try.prog 27 #[.agg #[.slice a n c, .int .i64 x], .agg #[.slice b m d, .int .i64 x]] w fun e w' => e = .returned (.bool true) ∧ Below w.heap.size w w' := by
  have HB : Hid (∀ o1 o2, Below w.heap.size w ((w.alloc o1).alloc o2)) := fun o1 o2 => ((Below.refl _ _).alloc (Nat.le_refl _) _).alloc (by simp) _
  have CS : Hid (∀ o1 o2, Calls Try.prog 40 #[.slice a n c, .slice b m d] ((w.alloc o1).alloc o2) fun e w' => e = .returned (.bool true) ∧ Below ((w.alloc o1).alloc o2).heap.size ((w.alloc o1).alloc o2) w') := fun o1 o2 =>
    (eqStringS_any _ a b n c m d ss ss (h.below (HB.out o1 o2)) (k.below (HB.out o1 o2))).mono (by rintro e w' ⟨u, rfl, hu, hb⟩; exact ⟨by rw [hu.2 rfl], hb⟩)
  clear h k
  go_enter Try.func27, Try.ntmps27
  go_wp2_with fail
  refine (CS.out _ _).mono ?_
  rintro e w1 ⟨rfl, hb1⟩
  obtain ⟨t0, t1⟩ := M.thr2 w (.cells #[.slice a n c, .int .i64 x] 32) (.cells #[.slice b m d, .int .i64 x] 32)
  have u0 := (hb1.block w.heap.size (by simp; omega)).trans t0
  have u1 := (hb1.block (w.heap.size + 1) (by simp)).trans t1
  have x1 := M.bk_cell u0 1 (.int .i64 x) rfl
  have y1 := M.bk_cell u1 1 (.int .i64 x) rfl
  have B1 : Hid (Below w.heap.size w w1) := (HB.out _ _).trans (hb1.mono (HB.out _ _).size)
  clear hb1 t0 t1 u0 u1
  go_wp2
  go_ret
  exact ⟨rfl, B1.out⟩
end Go.Proofs.Ytafenhodfoflbab
