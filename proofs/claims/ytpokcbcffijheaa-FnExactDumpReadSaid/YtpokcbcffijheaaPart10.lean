/-
  Facts on bytes, for buffers of them.
-/
import Derived.Test.YtpokcbcffijheaaRows
import Derived.Test.YtpokcbcffijheaaJoined
import Derived.Test.YtpokcbcffijheaaPart2
namespace Go.Proofs.Ytpokcbcffijheaa
open Go.RowKit

theorem Try.infoB : (Try.prog.info? 5).map (fun i => (i.zero, i.size, i.bytes)) = some (some (.int .u8 0), 1, 1) := by kernel_rfl
theorem Try.sizeB (w : World) : (Go.sizeOf 5).run Try.prog w = .ok 1 w := by kernel_rfl
end Go.Proofs.Ytpokcbcffijheaa

/-
  What 'pieceOf' of the program does: a copy of a piece of a text.
-/
namespace Go.Proofs.Ytpokcbcffijheaa
open Go.RowKit

theorem M.extract_size (s : ByteArray) (f t : Nat) (h : f ≤ t) (h2 : t ≤ s.size) : (s.extract f t).size = t - f := by
  rw [ByteArray.size_extract]; omega
theorem M.data_back (s : ByteArray) : (⟨s.data.toList.toArray⟩ : ByteArray) = s := by
  cases s; rfl

set_option maxRecDepth 100000 in
set_option maxHeartbeats 800000 in
theorem pieceOf_any (s : ByteArray) (f t : Nat) (w : World) (hs : s.size ≤ 1099511627776) (h1 : f ≤ t) (h2 : t ≤ s.size) :
    Calls Try.prog 88 #[.string s, .int .i64 f, .int .i64 t] w fun e w' => e = .returned (.string (s.extract f t)) ∧ Below w.heap.size w w' := by
  obtain ⟨i0, hi, hz0, hz1, hz2⟩ := info_parts Try.infoB
  have hsz := M.extract_size s f t h1 h2
  have HZ : Hid ((s.extract f t).size = t - f) := hsz
  clear hsz
  go_enter Try.func88, Try.ntmps88
  go_wp2_with (at_make; refine wpList_make_full _ rfl (.tmp 10) (.tmp 10) 22 rfl w.heap.size 5 i0 (.int .u8 0) 1 Try.underlying22 hi hz0 hz1 .i64 .i64 _ _ (t - f) rfl rfl ?c1 ?c2 ?c3 ?c4 ?c5 ?_)
  case c1 => omega
  case c2 => omega
  case c3 => rw [hz2]; omega
  case c4 => unfold maxLen; omega
  case c5 => exact Nat.le_refl _
  intro w1 hown hgrow
  have hbuf := M.buf_made hown hgrow
  obtain ⟨wr1, hr1, hb1⟩ := M.copy_str (P := Try.prog) w w1 w.heap.size (t - f) [] (s.extract f t) 22 9 3 5 Try.underlying22 Try.sizeB hbuf (by rw [HZ.out]; simp)
  rw [show ([] : List UInt8).length = 0 from rfl, Lib.tailV_zero] at hr1
  rw [List.nil_append] at hb1
  have hcv := M.conv_buf Try.underlying22 Try.underlying5 Try.underlying9 hb1 (by rw [← Lib.size_eq, HZ.out])
  rw [M.data_back] at hcv
  have hB : Hid (Below w.heap.size w wr1) := hb1.below
  clear hown hgrow hbuf hb1
  go_wp2
  go_ret
  exact ⟨rfl, hB.out⟩
end Go.Proofs.Ytpokcbcffijheaa

/-
  What readText of the program does.
-/
namespace Go.Proofs.Ytpokcbcffijheaa
open Go.RowKit

theorem M.txt3_num {s : ByteArray} {n : Int} (h : (M.num3 s n).2.2 ≠ 0) : M.txt3 s n = (⟨#[]⟩, 0, (M.num3 s n).2.2) := by unfold M.txt3; rw [if_pos h]
theorem M.txt3_len {s : ByteArray} {n : Int} (h : (M.num3 s n).2.2 = 0) (h1 : (M.num3 s n).1 < 0 ∨ 20000 < (M.num3 s n).1) : M.txt3 s n = (⟨#[]⟩, 0, 3) := by unfold M.txt3; rw [if_neg (by simp [h]), if_pos h1]
theorem M.txt3_short {s : ByteArray} {n : Int} (h : (M.num3 s n).2.2 = 0) (h1 : ¬ ((M.num3 s n).1 < 0 ∨ 20000 < (M.num3 s n).1)) (h2 : (s.size : Int) - (M.num3 s n).2.1 < (M.num3 s n).1) : M.txt3 s n = (⟨#[]⟩, 0, 4) := by unfold M.txt3; rw [if_neg (by simp [h]), if_neg h1, if_pos h2]
theorem M.txt3_ok {s : ByteArray} {n : Int} (h : (M.num3 s n).2.2 = 0) (h1 : ¬ ((M.num3 s n).1 < 0 ∨ 20000 < (M.num3 s n).1)) (h2 : ¬ (s.size : Int) - (M.num3 s n).2.1 < (M.num3 s n).1) : M.txt3 s n = (s.extract (M.num3 s n).2.1.toNat ((M.num3 s n).2.1.toNat + (M.num3 s n).1.toNat), (M.num3 s n).2.1 + (M.num3 s n).1, 0) := by unfold M.txt3; rw [if_neg (by simp [h]), if_neg h1, if_neg h2]

set_option maxRecDepth 100000 in
set_option maxHeartbeats 1600000 in
theorem readText_any (s : ByteArray) (n : Int) (w : World) (hs : s.size ≤ maxLen) (h1 : -9223372036854775808 ≤ n) (h2 : n ≤ 9223372036854775807) :
    Calls Try.prog 83 #[.string s, .int .i64 n] w fun e w' => e = .returned (.tuple #[.string (M.txt3 s n).1, .int .i64 (M.txt3 s n).2.1, M.errV (M.txt3 s n).2.2]) ∧ Below w.heap.size w w' := by
  have hR := fun W => readNum_any s n W hs h1 h2
  have hok := @M.num3_ok s n
  have t1 := @M.txt3_num s n
  have t2 := @M.txt3_len s n
  have t3 := @M.txt3_short s n
  have t4 := @M.txt3_ok s n
  revert hR hok t1 t2 t3 t4
  generalize (M.num3 s n).1 = A, (M.num3 s n).2.1 = B, (M.num3 s n).2.2 = c
  intro hR hok t1 t2 t3 t4
  unfold maxLen at hs
  by_cases hc : c = 0
  · obtain ⟨b1, b2, b3, b4, b5⟩ := hok hc
    subst hc
    rw [M.errV_ok] at hR
    obtain ⟨B, rfl⟩ := Int.eq_ofNat_of_zero_le b1
    have HR : Hid _ := hR
    clear hR hok t1
    by_cases hA : A < 0 ∨ 20000 < A
    · rw [t2 rfl hA, M.errV_no (by decide)]
      rcases hA with hA | hA
      · have d1 : decide (A < 0) = true := decide_eq_true hA
        clear t2 t3 t4
        go_enter Try.func83, Try.ntmps83
        go_wp2_with (go_at_call 82; refine (HR.out _).mono ?_; rintro e w' ⟨rfl, rfl⟩)
        go_ret3
        exact ⟨rfl, Below.refl _ _⟩
      · have d1 : decide (A < 0) = false := decide_eq_false (by omega)
        have d2 : decide (20000 < A) = true := decide_eq_true hA
        clear t2 t3 t4
        go_enter Try.func83, Try.ntmps83
        go_wp2_with (go_at_call 82; refine (HR.out _).mono ?_; rintro e w' ⟨rfl, rfl⟩)
        go_ret3
        exact ⟨rfl, Below.refl _ _⟩
    · obtain ⟨A, rfl⟩ := Int.eq_ofNat_of_zero_le (show 0 ≤ A by omega)
      have d1 : decide ((A : Int) < 0) = false := decide_eq_false (by omega)
      have d2 : decide ((20000 : Int) < (A : Int)) = false := decide_eq_false (by omega)
      by_cases hS : (s.size : Int) - (B : Int) < (A : Int)
      · rw [t3 rfl hA hS, M.errV_no (by decide)]
        clear t2 t3 t4 hA
        go_enter Try.func83, Try.ntmps83
        go_wp2_with (go_at_call 82; refine (HR.out _).mono ?_; rintro e w' ⟨rfl, rfl⟩)
        go_ret3
        exact ⟨rfl, Below.refl _ _⟩
      · rw [t4 rfl hA hS, M.errV_ok, Int.toNat_natCast, Int.toNat_natCast]
        have hP : ∀ W, Calls Try.prog 88 #[.string s, .int .i64 (B : Int), .int .i64 ((B : Int) + (A : Int))] W fun e w' => e = .returned (.string (s.extract B (B + A))) ∧ Below W.heap.size W w' := fun W => by
          have := pieceOf_any s B (B + A) W (by omega) (by omega) (by omega)
          rwa [Int.natCast_add] at this
        have HP : Hid _ := hP
        clear t2 t3 t4 hA hP
        go_enter Try.func83, Try.ntmps83
        go_wp2_with (first | (go_at_call 82; refine (HR.out _).mono ?_; rintro e w' ⟨rfl, rfl⟩) | (go_at_call 88; refine (HP.out _).mono ?_; rintro e w2 ⟨rfl, hb2⟩))
        go_ret3
        exact ⟨rfl, hb2⟩
  · rw [t1 hc]
    rw [M.errV_no hc] at hR ⊢
    have HR : Hid _ := hR
    clear hR t1 t2 t3 t4 hok
    go_enter Try.func83, Try.ntmps83
    go_wp2_with (go_at_call 82; refine (HR.out _).mono ?_; rintro e w' ⟨rfl, rfl⟩)
    go_ret3
    exact ⟨rfl, Below.refl _ _⟩

end Go.Proofs.Ytpokcbcffijheaa
