/-
  What the laws' eqSender does at like senders.
-/
import Derived.Test.YtafenhodfoflbabLinkBox
import Derived.Test.YtafenhodfoflbabStrWalks
namespace Go.Proofs.Ytafenhodfoflbab
open Go.RowKit

set_option maxRecDepth 100000 in
set_option maxHeartbeats 800000 in
theorem eqSend_same (w : World) (a b : Option Addr) (n c m e : Nat) (ss : List ByteArray) (x d t : Int) (h : M.Strs w a n c ss) (k : M.Strs w b m e ss) :
    Calls Try.prog 13 #[.agg #[.slice a n c, .int .i64 x, .int .i64 d, .int .i64 t], .agg #[.slice b m e, .int .i64 x, .int .i64 d, .int .i64 t]] w fun r w' => r = .returned (.bool true) ∧ Below w.heap.size w w' := by
  have HB : Hid (∀ o1 o2, Below w.heap.size w ((w.alloc o1).alloc o2)) := fun o1 o2 => ((Below.refl _ _).alloc (Nat.le_refl _) _).alloc (by simp) _
  have CS : Hid (∀ o1 o2, Calls Try.prog 40 #[.slice a n c, .slice b m e] ((w.alloc o1).alloc o2) fun r w' => r = .returned (.bool true) ∧ Below ((w.alloc o1).alloc o2).heap.size ((w.alloc o1).alloc o2) w') := fun o1 o2 =>
    (eqStringS_any _ a b n c m e ss ss (h.below (HB.out o1 o2)) (k.below (HB.out o1 o2))).mono (by rintro r w' ⟨u, rfl, hu, hb⟩; exact ⟨by rw [hu.2 rfl], hb⟩)
  clear h k
  go_enter Try.func13, Try.ntmps13
  go_wp2_with fail
  refine (CS.out _ _).mono ?_
  rintro r w1 ⟨rfl, hb1⟩
  obtain ⟨t0, t1⟩ := M.thr2 w (.cells #[.slice a n c, .int .i64 x, .int .i64 d, .int .i64 t] 27) (.cells #[.slice b m e, .int .i64 x, .int .i64 d, .int .i64 t] 27)
  have u0 := (hb1.block w.heap.size (by simp; omega)).trans t0
  have u1 := (hb1.block (w.heap.size + 1) (by simp)).trans t1
  have x1 := M.bk_cell u0 1 (.int .i64 x) rfl
  have x2 := M.bk_cell u0 2 (.int .i64 d) rfl
  have x3 := M.bk_cell u0 3 (.int .i64 t) rfl
  have y1 := M.bk_cell u1 1 (.int .i64 x) rfl
  have y2 := M.bk_cell u1 2 (.int .i64 d) rfl
  have y3 := M.bk_cell u1 3 (.int .i64 t) rfl
  have B1 : Hid (Below w.heap.size w w1) := (HB.out _ _).trans (hb1.mono (HB.out _ _).size)
  clear hb1 t0 t1 u0 u1
  go_wp2
  go_ret
  exact ⟨rfl, B1.out⟩
end Go.Proofs.Ytafenhodfoflbab
