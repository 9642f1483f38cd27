/-
  What GetText of the specification does.
-/
import Derived.Test.YtpokcbcffijheaaPart10
import Derived.Test.YtpokcbcffijheaaGetNumBase
import Derived.Test.YtpokcbcffijheaaBCell
namespace Go.Proofs.Ytpokcbcffijheaa
open Go.RowKit

theorem M.fin_below {w w1 : World} {o1 o : Obj} {v0 v1 v2 : Value} (hb : Below (w.alloc o1).heap.size (w.alloc o1) w1) :
    Below w.heap.size w ((((w1.setCell ⟨w.heap.size, 0, none⟩ v0).setCell ⟨w.heap.size, 1, none⟩ v1).setCell ⟨w.heap.size, 2, none⟩ v2).alloc o) := by
  have hs := hb.size
  simp at hs
  refine Below.alloc ?_ (by simp [World.setCell]; omega) _
  refine ((Below.setCell ?_ (by exact Nat.le_refl _) _).setCell (by exact Nat.le_refl _) _).setCell (by exact Nat.le_refl _) _
  exact ((Below.refl w.heap.size w).alloc (Nat.le_refl _) _).trans (hb.mono (by simp))

set_option maxRecDepth 100000 in
set_option maxHeartbeats 1600000 in
theorem sGetText_any (s : ByteArray) (n : Int) (w : World) (hs : s.size ≤ maxLen) (h1 : -9223372036854775808 ≤ n) (h2 : n ≤ 9223372036854775807) :
    Calls Try.prog 85 #[.string s, .int .i64 n] w fun e w' => e = .returned (.agg #[.string (M.txt3 s n).1, .int .i64 (M.txt3 s n).2.1, .int .i64 (M.txt3 s n).2.2]) ∧ Below w.heap.size w w' := by
  have hR := fun W => sGetNum_any s n W hs h1 h2
  have hok := @M.num3_ok s n
  have t1 := @M.txt3_num s n
  have t2 := @M.txt3_len s n
  have t3 := @M.txt3_short s n
  have t4 := @M.txt3_ok s n
  revert hR hok t1 t2 t3 t4
  generalize (M.num3 s n).1 = A, (M.num3 s n).2.1 = B, (M.num3 s n).2.2 = c
  intro hR hok t1 t2 t3 t4
  unfold maxLen at hs
  by_cases hc : c = 0
  · obtain ⟨b1, b2, b3, b4, b5⟩ := hok hc
    subst hc
    obtain ⟨B, rfl⟩ := Int.eq_ofNat_of_zero_le b1
    have HR : Hid _ := hR
    clear hR hok t1
    by_cases hA : A < 0 ∨ 20000 < A
    · rw [t2 rfl hA]
      rcases hA with hA | hA
      · have d1 : decide (A < 0) = true := decide_eq_true hA
        clear t2 t3 t4
        go_enter Try.func85, Try.ntmps85
        go_wp2_with (go_at_call 84; refine (HR.out _).mono ?_; rintro e w1 ⟨rfl, hb1⟩; obtain ⟨hc1, hf1⟩ := M.bcell hb1; have hz1 : w.heap.size < w1.heap.size := by have := hb1.size; simp at this; omega)
        exact bodyPost_ret (v := .agg #[.string ⟨#[]⟩, .int .i64 0, .int .i64 3]) (by simp [results, Try.results85, go_sem, hc1, hz1]) rfl ⟨rfl, M.fin_below hb1⟩
      · have d1 : decide (A < 0) = false := decide_eq_false (by omega)
        have d2 : decide (20000 < A) = true := decide_eq_true hA
        clear t2 t3 t4
        go_enter Try.func85, Try.ntmps85
        go_wp2_with (go_at_call 84; refine (HR.out _).mono ?_; rintro e w1 ⟨rfl, hb1⟩; obtain ⟨hc1, hf1⟩ := M.bcell hb1; have hz1 : w.heap.size < w1.heap.size := by have := hb1.size; simp at this; omega)
        exact bodyPost_ret (v := .agg #[.string ⟨#[]⟩, .int .i64 0, .int .i64 3]) (by simp [results, Try.results85, go_sem, hc1, hz1]) rfl ⟨rfl, M.fin_below hb1⟩
    · obtain ⟨A, rfl⟩ := Int.eq_ofNat_of_zero_le (show 0 ≤ A by omega)
      have d1 : decide ((A : Int) < 0) = false := decide_eq_false (by omega)
      have d2 : decide ((20000 : Int) < (A : Int)) = false := decide_eq_false (by omega)
      by_cases hS : (s.size : Int) - (A : Int) < (B : Int)
      · rw [t3 rfl hA (by omega)]
        clear t2 t3 t4 hA
        go_enter Try.func85, Try.ntmps85
        go_wp2_with (go_at_call 84; refine (HR.out _).mono ?_; rintro e w1 ⟨rfl, hb1⟩; obtain ⟨hc1, hf1⟩ := M.bcell hb1; have hz1 : w.heap.size < w1.heap.size := by have := hb1.size; simp at this; omega)
        exact bodyPost_ret (v := .agg #[.string ⟨#[]⟩, .int .i64 0, .int .i64 4]) (by simp [results, Try.results85, go_sem, hc1, hz1]) rfl ⟨rfl, M.fin_below hb1⟩
      · rw [t4 rfl hA (by omega), Int.toNat_natCast, Int.toNat_natCast]
        clear t2 t3 t4 hA
        go_enter Try.func85, Try.ntmps85
        go_wp2_with (go_at_call 84; refine (HR.out _).mono ?_; rintro e w1 ⟨rfl, hb1⟩; obtain ⟨hc1, hf1⟩ := M.bcell hb1; have hz1 : w.heap.size < w1.heap.size := by have := hb1.size; simp at this; omega)
        go_region
        all_goals (try go_wp2)
        exact bodyPost_ret (v := .agg #[.string (s.extract B (B + A)), .int .i64 ((B : Int) + (A : Int)), .int .i64 0]) (by simp [results, Try.results85, go_sem, hc1, hz1]) rfl ⟨rfl, (M.fin_below hb1).drew⟩
  · rw [t1 hc]
    have HR : Hid _ := hR
    have d0 : ((c : Int) != 0) = true := by rw [bne_iff_ne]; omega
    clear hR t1 t2 t3 t4 hok
    go_enter Try.func85, Try.ntmps85
    go_wp2_with (go_at_call 84; refine (HR.out _).mono ?_; rintro e w1 ⟨rfl, hb1⟩; obtain ⟨hc1, hf1⟩ := M.bcell hb1; have hz1 : w.heap.size < w1.heap.size := by have := hb1.size; simp at this; omega)
    exact bodyPost_ret (v := .agg #[.string ⟨#[]⟩, .int .i64 0, .int .i64 c]) (by simp [results, Try.results85, go_sem, hc1, hz1]) rfl ⟨rfl, M.fin_below hb1⟩

end Go.Proofs.Ytpokcbcffijheaa
