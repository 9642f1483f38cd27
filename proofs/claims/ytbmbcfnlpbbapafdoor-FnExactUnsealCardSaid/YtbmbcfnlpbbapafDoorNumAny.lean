/-
  What readNum and codeOf of the program do, at every argument.
-/
import Derived.Test.YtbmbcfnlpbbapafDoorReadWalks
namespace Go.Proofs.YtbmbcfnlpbbapafDoor
open Go.RowKit

set_option maxRecDepth 100000 in
set_option maxHeartbeats 800000 in
theorem readNum_size (s : ByteArray) (n : Int) (w : World) (hs' : s.size ≤ maxLen) (hs : 20000 < s.size) :
    Calls Tryd.prog 16 #[.string s, .int .i64 n] w fun e w' => e = .returned (.tuple #[.int .i64 0, .int .i64 0, .iface 46 (.agg #[.int .i64 2])]) ∧ w = w' := by
  go_enter Tryd.func16, Tryd.ntmps16
  go_wp2
  go_step3
  go_wp2_with (go_at_call 20; refine (placeFault_size s _ _ hs' hs).mono ?_; rintro e w' ⟨rfl, rfl⟩)
  rw [Exit.noGoto_ret]
  go_ret3
  exact ⟨rfl, rfl⟩
set_option maxRecDepth 100000 in
set_option maxHeartbeats 800000 in
theorem readNum_form (s : ByteArray) (n : Int) (w : World) (hs : ¬ 20000 < s.size) (h0 : n < 0) (h1 : -9223372036854775808 ≤ n) :
    Calls Tryd.prog 16 #[.string s, .int .i64 n] w fun e w' => e = .returned (.tuple #[.int .i64 0, .int .i64 0, .iface 46 (.agg #[.int .i64 1])]) ∧ w = w' := by
  go_enter Tryd.func16, Tryd.ntmps16
  go_wp2
  go_step3
  go_wp2_with (go_at_call 20; refine (placeFault_form s _ _ hs h0 h1).mono ?_; rintro e w' ⟨rfl, rfl⟩)
  rw [Exit.noGoto_ret]
  go_ret3
  exact ⟨rfl, rfl⟩

/-- GetNum's three numbers. -/
def M.num3 (s : ByteArray) (n : Int) : Int × Int × Nat :=
  if 20000 < s.size then (0, 0, 2) else if n < 0 then (0, 0, 1) else
    let r := M.rd 0 0 (s.data.toList.drop n.toNat)
    (if r.1 = 0 then M.unZ r.2.1 else 0, if r.1 = 0 then n + r.2.2 else 0, r.1)
theorem M.num3_size {s : ByteArray} {n : Int} (h : 20000 < s.size) : M.num3 s n = (0, 0, 2) := by unfold M.num3; rw [if_pos h]
theorem M.num3_form {s : ByteArray} {n : Int} (h : ¬ 20000 < s.size) (h0 : n < 0) : M.num3 s n = (0, 0, 1) := by unfold M.num3; rw [if_neg h, if_pos h0]
theorem M.num3_in {s : ByteArray} {n : Nat} (h : ¬ 20000 < s.size) : M.num3 s (n : Int) = (if (M.rd 0 0 (s.data.toList.drop n)).1 = 0 then M.unZ (M.rd 0 0 (s.data.toList.drop n)).2.1 else 0, if (M.rd 0 0 (s.data.toList.drop n)).1 = 0 then (n : Int) + (M.rd 0 0 (s.data.toList.drop n)).2.2 else 0, (M.rd 0 0 (s.data.toList.drop n)).1) := by
  unfold M.num3; rw [if_neg h, if_neg (by omega), Int.toNat_natCast]

theorem readNum_any (s : ByteArray) (n : Int) (w : World) (hs : s.size ≤ maxLen) (h1 : -9223372036854775808 ≤ n) (h2 : n ≤ 9223372036854775807) :
    Calls Tryd.prog 16 #[.string s, .int .i64 n] w fun e w' => e = .returned (.tuple #[.int .i64 (M.num3 s n).1, .int .i64 (M.num3 s n).2.1, M.errV (M.num3 s n).2.2]) ∧ w = w' := by
  by_cases h : 20000 < s.size
  · rw [M.num3_size h, M.errV_no (by decide)]; exact readNum_size s n w hs h
  by_cases h0 : n < 0
  · rw [M.num3_form h h0, M.errV_no (by decide)]; exact readNum_form s n w h h0 h1
  obtain ⟨k, rfl⟩ := Int.eq_ofNat_of_zero_le (show 0 ≤ n by omega)
  rw [M.num3_in h]
  exact readNum_in s k w h h2

theorem codeOf_any (c : Nat) (w : World) (hg : M.errT w) :
    Calls Tryd.prog 12 #[M.errV c] w fun e w' => e = .returned (.int .i64 c) ∧ Below w.heap.size w w' := by
  by_cases h : c = 0
  · subst h; rw [M.errV_ok]; exact codeOf_nil w
  · rw [M.errV_no h]; exact codeOf_hit c w hg

end Go.Proofs.YtbmbcfnlpbbapafDoor
