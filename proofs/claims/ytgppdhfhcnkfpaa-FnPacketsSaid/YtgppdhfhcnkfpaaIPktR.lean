/-
  What PacketRight of the program does.
-/
import Derived.Test.YtgppdhfhcnkfpaaIMade
import Derived.Test.YtgppdhfhcnkfpaaWide
import Derived.Test.YtgppdhfhcnkfpaaPktEq
namespace Go.Proofs.Ytgppdhfhcnkfpaa
open Go.RowKit

set_option maxRecDepth 100000 in
set_option maxHeartbeats 1600000 in
theorem iPktR_any (q : Int) (l : Bool) (s : ByteArray) (c : Int) (w : World) (h1 : -9223372036854775808 ≤ q) (h2 : q ≤ 9223372036854775807) (hs : s.size ≤ 100000000) :
    Calls Try.prog 13 #[.agg #[.int .i64 q, .bool l, .string s, .int .i64 c]] w fun e w' => e = .returned (.bool (M.pktR q l s c)) ∧ Below w.heap.size w w' := by
  have BA : Hid (∀ o, Below w.heap.size w (w.alloc o)) := fun o => (Below.refl _ _).alloc (Nat.le_refl _) _
  unfold M.pktR
  by_cases b0 : q < 0
  · rw [decide_eq_false (show ¬ (0 ≤ q ∧ q ≤ 299) by omega), Bool.false_and, Bool.false_and]
    have e0 : decide (q < 0) = true := decide_eq_true b0
    go_enter Try.func13, Try.ntmps13
    go_wp2
    go_ret
    exact ⟨rfl, BA.out _⟩
  have e0 : decide (q < 0) = false := decide_eq_false b0
  by_cases b1 : 300 ≤ q
  · rw [decide_eq_false (show ¬ (0 ≤ q ∧ q ≤ 299) by omega), Bool.false_and, Bool.false_and]
    have e1 : decide (300 ≤ q) = true := decide_eq_true b1
    go_enter Try.func13, Try.ntmps13
    go_wp2
    go_ret
    exact ⟨rfl, BA.out _⟩
  have e1 : decide (300 ≤ q) = false := decide_eq_false b1
  rw [decide_eq_true (show 0 ≤ q ∧ q ≤ 299 by omega), Bool.true_and]
  by_cases b2 : 64 < s.size
  · rw [decide_eq_false (show ¬ s.size ≤ 64 by omega), Bool.false_and]
    have e2 : decide (64 < (s.size : Int)) = true := decide_eq_true (by omega)
    go_enter Try.func13, Try.ntmps13
    go_wp2
    go_ret
    exact ⟨rfl, BA.out _⟩
  have e2 : decide (64 < (s.size : Int)) = false := decide_eq_false (by omega)
  rw [decide_eq_true (show s.size ≤ 64 by omega), Bool.true_and]
  have CM : Hid (∀ W, Calls Try.prog 50 #[.int .i64 q, .bool l, .string s] W fun e w' => e = .returned (.agg #[.int .i64 q, .bool l, .string s, .int .i64 (M.pcrc q l s)]) ∧ Below W.heap.size W w') := fun W => iMade_any q l s W h1 h2 hs
  generalize M.pcrc q l s = r at CM
  have dl : (s.toList == s.toList) = true := by simp
  clear b0 b1 b2
  go_enter Try.func13, Try.ntmps13
  go_wp2_with fail
  have CX : Hid (∀ o, ∀ y : M.Wd (w.alloc o), Below w.heap.size w y.val) := fun o y => M.bxd_below y.bel
  have m0 : ∀ y : M.Wd (w.alloc (.cells #[.int .i64 q, .bool l, .string s, .int .i64 c] 29)), y.val.cell? ⟨w.heap.size, 0, none⟩ = some (.int .i64 q) := fun y => M.bxd y.bel 0 _ rfl
  have m1 : ∀ y : M.Wd (w.alloc (.cells #[.int .i64 q, .bool l, .string s, .int .i64 c] 29)), y.val.cell? ⟨w.heap.size, 1, none⟩ = some (.bool l) := fun y => M.bxd y.bel 1 _ rfl
  have m2 : ∀ y : M.Wd (w.alloc (.cells #[.int .i64 q, .bool l, .string s, .int .i64 c] 29)), y.val.cell? ⟨w.heap.size, 2, none⟩ = some (.string s) := fun y => M.bxd y.bel 2 _ rfl
  have m3 : ∀ y : M.Wd (w.alloc (.cells #[.int .i64 q, .bool l, .string s, .int .i64 c] 29)), y.val.cell? ⟨w.heap.size, 3, none⟩ = some (.int .i64 c) := fun y => M.bxd y.bel 3 _ rfl
  have qg := M.pktG
  have qe := fun W => M.pktEq q c r l s W
  refine M.wp_region_wd (by kernel_rfl) (by kernel_rfl) (fun _ => ?_)
  repeat (first | go_big_quiet_skip | (go_big_quiet_want; go_big_quiet_op; first | go_big_quiet_on | (apply Exists.intro; refine ⟨fun x => ?_, ?_⟩; exact M.Wd.call x (CM.out x.val); go_big_quiet_on)))
  refine wpQuiet_nil ?_
  intro w9 hw'
  have HB9 : Hid (Below w.heap.size w w9) := by obtain ⟨x, rfl⟩ := hw'; exact CX.out _ x
  clear hw' m0 m1 m2 m3
  go_wp2
  go_ret
  exact ⟨rfl, HB9.out⟩
end Go.Proofs.Ytgppdhfhcnkfpaa
