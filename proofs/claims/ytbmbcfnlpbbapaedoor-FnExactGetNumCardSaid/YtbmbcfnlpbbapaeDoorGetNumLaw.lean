/-
  What GetNum of the program does, and the law over it.
-/
import Derived.Test.YtbmbcfnlpbbapaeDoorGetNumBase
import Derived.Test.YtbmbcfnlpbbapaeDoorIGetNum
namespace Go.Proofs.YtbmbcfnlpbbapaeDoor
open Go.RowKit

set_option maxRecDepth 100000 in
set_option maxHeartbeats 800000 in
theorem eqNumOut_same (A B C : Int) (w : World) :
    Calls Tryd.prog 6 #[.agg #[.int .i64 A, .int .i64 B, .int .i64 C], .agg #[.int .i64 A, .int .i64 B, .int .i64 C]] w fun e w' => e = .returned (.bool true) ∧ Below w.heap.size w w' := by
  go_enter Tryd.func6, Tryd.ntmps6
  go_wp2
  go_ret
  exact ⟨rfl, ((Below.refl _ _).alloc (Nat.le_refl _) _).alloc (by simp) _⟩

set_option maxRecDepth 100000 in
set_option maxHeartbeats 800000 in
theorem fnExactGetNum_walk (s : ByteArray) (n : Int) (w : World) (hs : s.size ≤ maxLen) (h1 : -9223372036854775808 ≤ n) (h2 : n ≤ 9223372036854775807) (hg : M.errT w) :
    Calls Tryd.prog 3 #[.string s, .int .i64 n] w fun e w' => e = .returned (.bool true) ∧ Below w.heap.size w w' := by
  have hs' := hs
  unfold maxLen at hs'
  by_cases h : 1048576 < s.size
  · clear hg
    go_enter Tryd.func3, Tryd.ntmps3
    go_wp2
    go_ret
    exact ⟨rfl, Below.refl _ _⟩
  · have hS := fun W => sGetNum_any s n W hs h1 h2
    have hI := fun W hg => iGetNum_any s n W hs h1 h2 hg
    revert hS hI
    generalize (M.num3 s n).1 = A, (M.num3 s n).2.1 = B, (M.num3 s n).2.2 = c
    intro hS hI
    have HS : Hid _ := hS
    have HI : Hid _ := hI
    have HG : Hid (M.errT w) := hg
    clear hS hI hg
    go_enter Tryd.func3, Tryd.ntmps3
    go_wp2_with (go_at_call 4; refine (HS.out _).mono ?_; rintro e w1 ⟨rfl, hb1⟩)
    have HB1 : Hid (Below w.heap.size w w1) := hb1
    have hg1 := M.errT_alloc (M.errT_below HG.out hb1) (.cells #[.int .i64 A, .int .i64 B, .int .i64 c] 23)
    refine (HI.out _ hg1).mono ?_
    rintro e w2 ⟨rfl, hb2⟩
    obtain ⟨hc, hf⟩ := M.bcell hb2
    have hz : w1.heap.size < w2.heap.size := by have := hb2.size; simp at this; omega
    have HB2 : Hid (Below (w1.alloc (.cells #[.int .i64 A, .int .i64 B, .int .i64 c] 23)).heap.size (w1.alloc (.cells #[.int .i64 A, .int .i64 B, .int .i64 c] 23)) w2) := hb2
    clear hb1 hb2 hg1
    go_wp2_with (go_at_call 6; refine (eqNumOut_same A B c _).mono ?_; rintro e w3 ⟨rfl, hb3⟩)
    go_ret
    have hs1 := HB1.out.size
    have hs2 := HB2.out.size
    simp at hs2
    refine ⟨rfl, ?_⟩
    refine Below.trans ?_ (hb3.mono (by simp; omega))
    refine Below.alloc ?_ (by omega) _
    refine Below.trans ?_ (HB2.out.mono (by simp; omega))
    exact HB1.out.alloc hs1 _
end Go.Proofs.YtbmbcfnlpbbapaeDoor
