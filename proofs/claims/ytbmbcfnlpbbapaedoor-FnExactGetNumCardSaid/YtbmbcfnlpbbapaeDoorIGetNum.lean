/-
  What GetNum of the program does.
-/
import Derived.Test.YtbmbcfnlpbbapaeDoorNumAny
namespace Go.Proofs.YtbmbcfnlpbbapaeDoor
open Go.RowKit

set_option maxRecDepth 100000 in
set_option maxHeartbeats 800000 in
theorem iGetNum_any (s : ByteArray) (n : Int) (w : World) (hs : s.size ≤ maxLen) (h1 : -9223372036854775808 ≤ n) (h2 : n ≤ 9223372036854775807) (hg : M.errT w) :
    Calls Tryd.prog 5 #[.string s, .int .i64 n] w fun e w' => e = .returned (.agg #[.int .i64 (M.num3 s n).1, .int .i64 (M.num3 s n).2.1, .int .i64 (M.num3 s n).2.2]) ∧ Below w.heap.size w w' := by
  have hR := fun W => readNum_any s n W hs h1 h2
  revert hR
  generalize (M.num3 s n).1 = A, (M.num3 s n).2.1 = B, (M.num3 s n).2.2 = c
  intro hR
  have HR : Hid _ := hR
  have HG : Hid (M.errT w) := hg
  clear hR hg
  go_enter Tryd.func5, Tryd.ntmps5
  go_wp2_with (first | (go_at_call 7; refine (HR.out _).mono ?_; rintro e w' ⟨rfl, rfl⟩))
  refine (codeOf_any c _ (M.errT_alloc HG.out _)).mono ?_
  rintro e w1 ⟨rfl, hb⟩
  obtain ⟨hc, hf⟩ := M.bcell hb
  have hz : w.heap.size < w1.heap.size := by have := hb.size; simp at this; omega
  have HB : Hid (Below (w.alloc (.cells #[.int .i64 0, .int .i64 0, .int .i64 0] 23)).heap.size (w.alloc (.cells #[.int .i64 0, .int .i64 0, .int .i64 0] 23)) w1) := hb
  clear hb
  go_wp2
  refine bodyPost_ret (v := .agg #[.int .i64 A, .int .i64 B, .int .i64 c]) (by simp [results, Tryd.results5, go_sem, hc]) rfl ⟨rfl, ?_⟩
  exact ((((((Below.refl w.heap.size w).alloc (Nat.le_refl _) _).trans (HB.out.mono (by simp))).setCell (by exact Nat.le_refl _) _).setCell (by exact Nat.le_refl _) _).setCell (by exact Nat.le_refl _) _)

end Go.Proofs.YtbmbcfnlpbbapaeDoor
