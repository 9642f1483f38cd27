/-
  What GetText of the specification and of the program do, and the law over them.
-/
import Derived.Test.YtbmbcfnlpbbapafDoorIGetText
import Derived.Test.YtbmbcfnlpbbapafDoorGetNumBase
import Derived.Test.YtbmbcfnlpbbapafDoorEqText
namespace Go.Proofs.YtbmbcfnlpbbapafDoor
open Go.RowKit

theorem M.fin_below {w w1 : World} {o1 o : Obj} {v0 v1 v2 : Value} (hb : Below (w.alloc o1).heap.size (w.alloc o1) w1) :
    Below w.heap.size w ((((w1.setCell ⟨w.heap.size, 0, none⟩ v0).setCell ⟨w.heap.size, 1, none⟩ v1).setCell ⟨w.heap.size, 2, none⟩ v2).alloc o) := by
  have hs := hb.size
  simp at hs
  refine Below.alloc ?_ (by simp [World.setCell]; omega) _
  refine ((Below.setCell ?_ (by exact Nat.le_refl _) _).setCell (by exact Nat.le_refl _) _).setCell (by exact Nat.le_refl _) _
  exact ((Below.refl w.heap.size w).alloc (Nat.le_refl _) _).trans (hb.mono (by simp))

set_option maxRecDepth 100000 in
set_option maxHeartbeats 1600000 in
theorem sGetText_any (s : ByteArray) (n : Int) (w : World) (hs : s.size ≤ maxLen) (h1 : -9223372036854775808 ≤ n) (h2 : n ≤ 9223372036854775807) :
    Calls Tryd.prog 5 #[.string s, .int .i64 n] w fun e w' => e = .returned (.agg #[.string (M.txt3 s n).1, .int .i64 (M.txt3 s n).2.1, .int .i64 (M.txt3 s n).2.2]) ∧ Below w.heap.size w w' := by
  have hR := fun W => sGetNum_any s n W hs h1 h2
  have hok := @M.num3_ok s n
  have t1 := @M.txt3_num s n
  have t2 := @M.txt3_len s n
  have t3 := @M.txt3_short s n
  have t4 := @M.txt3_ok s n
  revert hR hok t1 t2 t3 t4
  generalize (M.num3 s n).1 = A, (M.num3 s n).2.1 = B, (M.num3 s n).2.2 = c
  intro hR hok t1 t2 t3 t4
  unfold maxLen at hs
  by_cases hc : c = 0
  · obtain ⟨b1, b2, b3, b4, b5⟩ := hok hc
    subst hc
    obtain ⟨B, rfl⟩ := Int.eq_ofNat_of_zero_le b1
    have HR : Hid _ := hR
    clear hR hok t1
    by_cases hA : A < 0 ∨ 20000 < A
    · rw [t2 rfl hA]
      rcases hA with hA | hA
      · have d1 : decide (A < 0) = true := decide_eq_true hA
        clear t2 t3 t4
        go_enter Tryd.func5, Tryd.ntmps5
        go_wp2_with (go_at_call 10; refine (HR.out _).mono ?_; rintro e w1 ⟨rfl, hb1⟩; obtain ⟨hc1, hf1⟩ := M.bcell hb1; have hz1 : w.heap.size < w1.heap.size := by have := hb1.size; simp at this; omega)
        exact bodyPost_ret (v := .agg #[.string ⟨#[]⟩, .int .i64 0, .int .i64 3]) (by simp [results, Tryd.results5, go_sem, hc1, hz1]) rfl ⟨rfl, M.fin_below hb1⟩
      · have d1 : decide (A < 0) = false := decide_eq_false (by omega)
        have d2 : decide (20000 < A) = true := decide_eq_true hA
        clear t2 t3 t4
        go_enter Tryd.func5, Tryd.ntmps5
        go_wp2_with (go_at_call 10; refine (HR.out _).mono ?_; rintro e w1 ⟨rfl, hb1⟩; obtain ⟨hc1, hf1⟩ := M.bcell hb1; have hz1 : w.heap.size < w1.heap.size := by have := hb1.size; simp at this; omega)
        exact bodyPost_ret (v := .agg #[.string ⟨#[]⟩, .int .i64 0, .int .i64 3]) (by simp [results, Tryd.results5, go_sem, hc1, hz1]) rfl ⟨rfl, M.fin_below hb1⟩
    · obtain ⟨A, rfl⟩ := Int.eq_ofNat_of_zero_le (show 0 ≤ A by omega)
      have d1 : decide ((A : Int) < 0) = false := decide_eq_false (by omega)
      have d2 : decide ((20000 : Int) < (A : Int)) = false := decide_eq_false (by omega)
      by_cases hS : (s.size : Int) - (A : Int) < (B : Int)
      · rw [t3 rfl hA (by omega)]
        clear t2 t3 t4 hA
        go_enter Tryd.func5, Tryd.ntmps5
        go_wp2_with (go_at_call 10; refine (HR.out _).mono ?_; rintro e w1 ⟨rfl, hb1⟩; obtain ⟨hc1, hf1⟩ := M.bcell hb1; have hz1 : w.heap.size < w1.heap.size := by have := hb1.size; simp at this; omega)
        exact bodyPost_ret (v := .agg #[.string ⟨#[]⟩, .int .i64 0, .int .i64 4]) (by simp [results, Tryd.results5, go_sem, hc1, hz1]) rfl ⟨rfl, M.fin_below hb1⟩
      · rw [t4 rfl hA (by omega), Int.toNat_natCast, Int.toNat_natCast]
        clear t2 t3 t4 hA
        go_enter Tryd.func5, Tryd.ntmps5
        go_wp2_with (go_at_call 10; refine (HR.out _).mono ?_; rintro e w1 ⟨rfl, hb1⟩; obtain ⟨hc1, hf1⟩ := M.bcell hb1; have hz1 : w.heap.size < w1.heap.size := by have := hb1.size; simp at this; omega)
        go_region
        all_goals (try go_wp2)
        exact bodyPost_ret (v := .agg #[.string (s.extract B (B + A)), .int .i64 ((B : Int) + (A : Int)), .int .i64 0]) (by simp [results, Tryd.results5, go_sem, hc1, hz1]) rfl ⟨rfl, (M.fin_below hb1).drew⟩
  · rw [t1 hc]
    have HR : Hid _ := hR
    have d0 : ((c : Int) != 0) = true := by rw [bne_iff_ne]; omega
    clear hR t1 t2 t3 t4 hok
    go_enter Tryd.func5, Tryd.ntmps5
    go_wp2_with (go_at_call 10; refine (HR.out _).mono ?_; rintro e w1 ⟨rfl, hb1⟩; obtain ⟨hc1, hf1⟩ := M.bcell hb1; have hz1 : w.heap.size < w1.heap.size := by have := hb1.size; simp at this; omega)
    exact bodyPost_ret (v := .agg #[.string ⟨#[]⟩, .int .i64 0, .int .i64 c]) (by simp [results, Tryd.results5, go_sem, hc1, hz1]) rfl ⟨rfl, M.fin_below hb1⟩

set_option maxRecDepth 100000 in
set_option maxHeartbeats 800000 in
theorem fnExactGetText_walk (s : ByteArray) (n : Int) (w : World) (hs : s.size ≤ maxLen) (h1 : -9223372036854775808 ≤ n) (h2 : n ≤ 9223372036854775807) (hg : M.errT w) :
    Calls Tryd.prog 3 #[.string s, .int .i64 n] w fun e w' => e = .returned (.bool true) ∧ Below w.heap.size w w' := by
  have hs' := hs
  unfold maxLen at hs'
  by_cases h : 1048576 < s.size
  · clear hg
    go_enter Tryd.func3, Tryd.ntmps3
    go_wp2
    go_ret
    exact ⟨rfl, Below.refl _ _⟩
  · have hS := fun W => sGetText_any s n W hs h1 h2
    have hI := fun W hg => iGetText_any s n W hs h1 h2 hg
    revert hS hI
    generalize (M.txt3 s n).1 = A, (M.txt3 s n).2.1 = B, (M.txt3 s n).2.2 = c
    intro hS hI
    have HS : Hid _ := hS
    have HI : Hid _ := hI
    have HG : Hid (M.errT w) := hg
    clear hS hI hg
    go_enter Tryd.func3, Tryd.ntmps3
    go_wp2_with (go_at_call 5; refine (HS.out _).mono ?_; rintro e w1 ⟨rfl, hb1⟩)
    have HB1 : Hid (Below w.heap.size w w1) := hb1
    have hg1 := M.errT_alloc (M.errT_below HG.out hb1) (.cells #[.string A, .int .i64 B, .int .i64 c] 23)
    refine (HI.out _ hg1).mono ?_
    rintro e w2 ⟨rfl, hb2⟩
    obtain ⟨hc, hf⟩ := M.bcell hb2
    have hz : w1.heap.size < w2.heap.size := by have := hb2.size; simp at this; omega
    have HB2 : Hid (Below (w1.alloc (.cells #[.string A, .int .i64 B, .int .i64 c] 23)).heap.size (w1.alloc (.cells #[.string A, .int .i64 B, .int .i64 c] 23)) w2) := hb2
    clear hb1 hb2 hg1
    go_wp2_with (go_at_call 7; refine (eqTextOut_same A B c _).mono ?_; rintro e w3 ⟨rfl, hb3⟩)
    go_ret
    have hs1 := HB1.out.size
    have hs2 := HB2.out.size
    simp at hs2
    refine ⟨rfl, ?_⟩
    refine Below.trans ?_ (hb3.mono (by simp; omega))
    refine Below.alloc ?_ (by omega) _
    refine Below.trans ?_ (HB2.out.mono (by simp; omega))
    exact HB1.out.alloc hs1 _
end Go.Proofs.YtbmbcfnlpbbapafDoor
