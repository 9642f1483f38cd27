/-
  What the laws' markSender and heldSender do.
-/
import Derived.Test.YtafenhodfoflbabStrMarks
import Derived.Test.YtafenhodfoflbabSendCopy
import Derived.Test.YtafenhodfoflbabLinkBox
namespace Go.Proofs.Ytafenhodfoflbab
open Go.RowKit

theorem M.OwnS.grw {W W' : World} {base : Nat} {v : Value} {ss : List ByteArray} {row : Option Nat} (h : M.OwnS W base v ss) (hg : W.grownBy W' row) (hne : ∀ j, v.ownBlock = some j → some j ≠ row) : M.OwnS W' base v ss := by
  obtain ⟨hl, h0 | ⟨g, cap, cur, hv, hb, hh, hr⟩⟩ := h
  · exact ⟨hl, .inl h0⟩
  · exact ⟨hl, .inr ⟨g, cap, cur, hv, hb, by rw [hg.block g (Array.getElem?_eq_some_iff.1 hh).1 (hne g (by rw [hv]; rfl))]; exact hh, hr⟩⟩
theorem M.all1 {w : World} (o : Obj) : Below w.heap.size w (w.alloc o) := (Below.refl _ _).alloc (Nat.le_refl _) _

set_option maxRecDepth 100000 in
set_option maxHeartbeats 800000 in
theorem markSend_own (w : World) (base : Nat) (v : Value) (ss : List ByteArray) (x d t : Int) (h : M.OwnS w base v ss) (hl : ss.length ≤ 1048576) :
    Calls Try.prog 17 #[.agg #[v, .int .i64 x, .int .i64 d, .int .i64 t], .int .i64 1] w fun e w' => e = .returned (.int .i64 ((1 + ss.length : Nat) : Int)) ∧ M.OwnS w' base v (M.mts ss.length 1) ∧ w.grownBy w' v.ownBlock := by
  obtain ⟨a, cap, rfl⟩ := h.len
  have HC : Hid (∀ o, Calls Try.prog 50 #[.slice a ss.length cap, .int .i64 1] (w.alloc o) fun e w' => e = .returned (.int .i64 ((1 + ss.length : Nat) : Int)) ∧ M.OwnS w' base (.slice a ss.length cap) (M.mts ss.length 1) ∧ (w.alloc o).grownBy w' (Value.slice a ss.length cap).ownBlock) := fun o => markStringS_own (w.alloc o) base _ ss (h.below (M.all1 o)) (by omega)
  clear h
  obtain ⟨N, hN⟩ : ∃ N, N = 1 + ss.length := ⟨_, rfl⟩
  rw [← hN] at HC ⊢
  have hN2 : N ≤ 3000000 := by omega
  clear hN
  go_enter Try.func17, Try.ntmps17
  go_wp2_with fail
  refine (HC.out _).mono ?_
  rintro e w1 ⟨rfl, hO, hg⟩
  have O1 := M.hl hO
  have G1 := M.hl (((World.grownBy_alloc w _ none).but _).trans hg)
  clear hO hg
  go_wp2
  go_ret
  exact ⟨rfl, O1.out, G1.out⟩

set_option maxRecDepth 100000 in
set_option maxHeartbeats 800000 in
theorem markSend_row (w : World) (g n c : Nat) (x d t : Int) (h : M.Row w g 9 n) (hl : n ≤ 1048576) :
    Calls Try.prog 17 #[.agg #[.slice (some ⟨g, 0, none⟩) n c, .int .i64 x, .int .i64 d, .int .i64 t], .int .i64 1] w fun e w' => e = .returned (.int .i64 ((1 + n : Nat) : Int)) ∧ w.grownBy w' (some g) := by
  have HC : Hid (∀ o, Calls Try.prog 50 #[.slice (some ⟨g, 0, none⟩) n c, .int .i64 1] (w.alloc o) fun e w' => e = .returned (.int .i64 ((1 + n : Nat) : Int)) ∧ (w.alloc o).grownBy w' (some g)) := fun o =>
    (markStringS_at (w.alloc o) g n c n (h.of_block ((M.all1 o).block g h.lt)) (Nat.le_refl _) (by omega)).mono (by rintro e w' ⟨he, -, -, hg⟩; exact ⟨he, hg⟩)
  clear h
  obtain ⟨N, hN⟩ : ∃ N, N = 1 + n := ⟨_, rfl⟩
  rw [← hN] at HC ⊢
  have hN2 : N ≤ 3000000 := by omega
  clear hN
  go_enter Try.func17, Try.ntmps17
  go_wp2_with fail
  refine (HC.out _).mono ?_
  rintro e w1 ⟨rfl, hg⟩
  have G1 := M.hl (((World.grownBy_alloc w _ none).but _).trans hg)
  clear hg
  go_wp2
  go_ret
  exact ⟨rfl, G1.out⟩

set_option maxRecDepth 100000 in
set_option maxHeartbeats 800000 in
theorem heldSend_own (w : World) (base : Nat) (v : Value) (n : Nat) (x d t : Int) (h : M.OwnS w base v (M.mts n 1)) (hl : n ≤ 1048576) :
    Calls Try.prog 22 #[.agg #[v, .int .i64 x, .int .i64 d, .int .i64 t], .int .i64 1] w fun e w' => e = .returned (.int .i64 ((1 + n : Nat) : Int)) ∧ Below w.heap.size w w' := by
  have HC : Hid (∀ o, Calls Try.prog 54 #[v, .int .i64 1] (w.alloc o) fun e w' => e = .returned (.int .i64 ((1 + n : Nat) : Int)) ∧ Below (w.alloc o).heap.size (w.alloc o) w') := fun o => heldStringS_own (w.alloc o) base v n (h.below (M.all1 o)) (by omega)
  obtain ⟨a, cap, rfl⟩ := h.len
  clear h
  obtain ⟨N, hN⟩ : ∃ N, N = 1 + n := ⟨_, rfl⟩
  rw [← hN] at HC ⊢
  have hN2 : N ≤ 3000000 := by omega
  clear hN
  go_enter Try.func22, Try.ntmps22
  go_wp2_with fail
  refine (HC.out _).mono ?_
  rintro e w1 ⟨rfl, hb⟩
  have B1 := M.hl (M.bxd_below hb)
  clear hb
  go_wp2
  go_ret
  exact ⟨rfl, B1.out⟩
end Go.Proofs.Ytafenhodfoflbab
