/-
  What readText and GetText of the program do.
-/
import Derived.Test.YtbmbcfnlpbbapafDoorTextMath
import Derived.Test.YtbmbcfnlpbbapafDoorPieceWalk
namespace Go.Proofs.YtbmbcfnlpbbapafDoor
open Go.RowKit

theorem M.txt3_num {s : ByteArray} {n : Int} (h : (M.num3 s n).2.2 ≠ 0) : M.txt3 s n = (⟨#[]⟩, 0, (M.num3 s n).2.2) := by unfold M.txt3; rw [if_pos h]
theorem M.txt3_len {s : ByteArray} {n : Int} (h : (M.num3 s n).2.2 = 0) (h1 : (M.num3 s n).1 < 0 ∨ 20000 < (M.num3 s n).1) : M.txt3 s n = (⟨#[]⟩, 0, 3) := by unfold M.txt3; rw [if_neg (by simp [h]), if_pos h1]
theorem M.txt3_short {s : ByteArray} {n : Int} (h : (M.num3 s n).2.2 = 0) (h1 : ¬ ((M.num3 s n).1 < 0 ∨ 20000 < (M.num3 s n).1)) (h2 : (s.size : Int) - (M.num3 s n).2.1 < (M.num3 s n).1) : M.txt3 s n = (⟨#[]⟩, 0, 4) := by unfold M.txt3; rw [if_neg (by simp [h]), if_neg h1, if_pos h2]
theorem M.txt3_ok {s : ByteArray} {n : Int} (h : (M.num3 s n).2.2 = 0) (h1 : ¬ ((M.num3 s n).1 < 0 ∨ 20000 < (M.num3 s n).1)) (h2 : ¬ (s.size : Int) - (M.num3 s n).2.1 < (M.num3 s n).1) : M.txt3 s n = (s.extract (M.num3 s n).2.1.toNat ((M.num3 s n).2.1.toNat + (M.num3 s n).1.toNat), (M.num3 s n).2.1 + (M.num3 s n).1, 0) := by unfold M.txt3; rw [if_neg (by simp [h]), if_neg h1, if_neg h2]

set_option maxRecDepth 100000 in
set_option maxHeartbeats 1600000 in
theorem readText_any (s : ByteArray) (n : Int) (w : World) (hs : s.size ≤ maxLen) (h1 : -9223372036854775808 ≤ n) (h2 : n ≤ 9223372036854775807) :
    Calls Tryd.prog 11 #[.string s, .int .i64 n] w fun e w' => e = .returned (.tuple #[.string (M.txt3 s n).1, .int .i64 (M.txt3 s n).2.1, M.errV (M.txt3 s n).2.2]) ∧ Below w.heap.size w w' := by
  have hR := fun W => readNum_any s n W hs h1 h2
  have hok := @M.num3_ok s n
  have t1 := @M.txt3_num s n
  have t2 := @M.txt3_len s n
  have t3 := @M.txt3_short s n
  have t4 := @M.txt3_ok s n
  revert hR hok t1 t2 t3 t4
  generalize (M.num3 s n).1 = A, (M.num3 s n).2.1 = B, (M.num3 s n).2.2 = c
  intro hR hok t1 t2 t3 t4
  unfold maxLen at hs
  by_cases hc : c = 0
  · obtain ⟨b1, b2, b3, b4, b5⟩ := hok hc
    subst hc
    rw [M.errV_ok] at hR
    obtain ⟨B, rfl⟩ := Int.eq_ofNat_of_zero_le b1
    have HR : Hid _ := hR
    clear hR hok t1
    by_cases hA : A < 0 ∨ 20000 < A
    · rw [t2 rfl hA, M.errV_no (by decide)]
      rcases hA with hA | hA
      · have d1 : decide (A < 0) = true := decide_eq_true hA
        clear t2 t3 t4
        go_enter Tryd.func11, Tryd.ntmps11
        go_wp2_with (go_at_call 16; refine (HR.out _).mono ?_; rintro e w' ⟨rfl, rfl⟩)
        go_ret3
        exact ⟨rfl, Below.refl _ _⟩
      · have d1 : decide (A < 0) = false := decide_eq_false (by omega)
        have d2 : decide (20000 < A) = true := decide_eq_true hA
        clear t2 t3 t4
        go_enter Tryd.func11, Tryd.ntmps11
        go_wp2_with (go_at_call 16; refine (HR.out _).mono ?_; rintro e w' ⟨rfl, rfl⟩)
        go_ret3
        exact ⟨rfl, Below.refl _ _⟩
    · obtain ⟨A, rfl⟩ := Int.eq_ofNat_of_zero_le (show 0 ≤ A by omega)
      have d1 : decide ((A : Int) < 0) = false := decide_eq_false (by omega)
      have d2 : decide ((20000 : Int) < (A : Int)) = false := decide_eq_false (by omega)
      by_cases hS : (s.size : Int) - (B : Int) < (A : Int)
      · rw [t3 rfl hA hS, M.errV_no (by decide)]
        clear t2 t3 t4 hA
        go_enter Tryd.func11, Tryd.ntmps11
        go_wp2_with (go_at_call 16; refine (HR.out _).mono ?_; rintro e w' ⟨rfl, rfl⟩)
        go_ret3
        exact ⟨rfl, Below.refl _ _⟩
      · rw [t4 rfl hA hS, M.errV_ok, Int.toNat_natCast, Int.toNat_natCast]
        have hP : ∀ W, Calls Tryd.prog 17 #[.string s, .int .i64 (B : Int), .int .i64 ((B : Int) + (A : Int))] W fun e w' => e = .returned (.string (s.extract B (B + A))) ∧ Below W.heap.size W w' := fun W => by
          have := pieceOf_any s B (B + A) W (by omega) (by omega) (by omega)
          rwa [Int.natCast_add] at this
        have HP : Hid _ := hP
        clear t2 t3 t4 hA hP
        go_enter Tryd.func11, Tryd.ntmps11
        go_wp2_with (first | (go_at_call 16; refine (HR.out _).mono ?_; rintro e w' ⟨rfl, rfl⟩) | (go_at_call 17; refine (HP.out _).mono ?_; rintro e w2 ⟨rfl, hb2⟩))
        go_ret3
        exact ⟨rfl, hb2⟩
  · rw [t1 hc]
    rw [M.errV_no hc] at hR ⊢
    have HR : Hid _ := hR
    clear hR t1 t2 t3 t4 hok
    go_enter Tryd.func11, Tryd.ntmps11
    go_wp2_with (go_at_call 16; refine (HR.out _).mono ?_; rintro e w' ⟨rfl, rfl⟩)
    go_ret3
    exact ⟨rfl, Below.refl _ _⟩

set_option maxRecDepth 100000 in
set_option maxHeartbeats 800000 in
theorem iGetText_any (s : ByteArray) (n : Int) (w : World) (hs : s.size ≤ maxLen) (h1 : -9223372036854775808 ≤ n) (h2 : n ≤ 9223372036854775807) (hg : M.errT w) :
    Calls Tryd.prog 6 #[.string s, .int .i64 n] w fun e w' => e = .returned (.agg #[.string (M.txt3 s n).1, .int .i64 (M.txt3 s n).2.1, .int .i64 (M.txt3 s n).2.2]) ∧ Below w.heap.size w w' := by
  have hR := fun W => readText_any s n W hs h1 h2
  revert hR
  generalize (M.txt3 s n).1 = A, (M.txt3 s n).2.1 = B, (M.txt3 s n).2.2 = c
  intro hR
  have HR : Hid _ := hR
  have HG : Hid (M.errT w) := hg
  clear hR hg
  go_enter Tryd.func6, Tryd.ntmps6
  go_wp2_with (first | (go_at_call 11; refine (HR.out _).mono ?_; rintro e w1 ⟨rfl, hb1⟩))
  have hsz1 := hb1.size
  simp at hsz1
  refine (codeOf_any c _ (M.errT_below (M.errT_alloc HG.out _) hb1)).mono ?_
  rintro e w2 ⟨rfl, hb2⟩
  obtain ⟨hc1, hf1⟩ := M.bcell hb1
  obtain ⟨hc2, hf2⟩ := M.bcell hb2
  have hsz2 := hb2.size
  have hz1 : w.heap.size < w1.heap.size := by omega
  have hz2 : w.heap.size < w2.heap.size := by omega
  have HB1 : Hid (Below (w.alloc (.cells #[.string ⟨#[]⟩, .int .i64 0, .int .i64 0] 23)).heap.size (w.alloc (.cells #[.string ⟨#[]⟩, .int .i64 0, .int .i64 0] 23)) w1) := hb1
  have HB2 : Hid (Below w1.heap.size w1 w2) := hb2
  clear hb1 hb2
  go_wp2
  refine bodyPost_ret (v := .agg #[.string A, .int .i64 B, .int .i64 c]) (by simp [results, Tryd.results6, go_sem, hc1, hc2, hz1]) rfl ⟨rfl, ?_⟩
  refine ((Below.setCell ?_ (by exact Nat.le_refl _) _).setCell (by exact Nat.le_refl _) _).setCell (by exact Nat.le_refl _) _
  refine Below.trans ?_ (HB2.out.mono (by omega))
  exact ((Below.refl w.heap.size w).alloc (Nat.le_refl _) _).trans (HB1.out.mono (by simp))

end Go.Proofs.YtbmbcfnlpbbapafDoor
