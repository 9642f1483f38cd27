/-
  What codeOf of the program does.
-/
import Derived.Test.YtbmbcfnlpbbapafDoorAsWalks
namespace Go.Proofs.YtbmbcfnlpbbapafDoor
open Go.RowKit

/-- The variable errors.errorType, as the program's text lays it. -/
def M.errT (w : World) : Prop := w.cell? ⟨0, 0, none⟩ = some (.iface 70 (.agg #[.pointer (some ⟨1, 33, none⟩)]))
theorem M.errT_lt {w : World} (h : M.errT w) : 0 < w.heap.size := by
  rcases Nat.eq_zero_or_pos w.heap.size with h0 | h'
  · simp [M.errT, World.cell?, h0] at h
  · exact h'
theorem M.errT_below {w w' : World} (h : M.errT w) (hb : Below w.heap.size w w') : M.errT w' := by
  unfold M.errT
  rw [hb.cell (p := ⟨0, 0, none⟩) (M.errT_lt h)]
  exact h

set_option maxRecDepth 100000 in
set_option maxHeartbeats 800000 in
theorem codeOf_nil (w : World) :
    Calls Tryd.prog 12 #[.nilIface] w fun e w' => e = .returned (.int .i64 0) ∧ Below w.heap.size w w' := by
  go_enter Tryd.func12, Tryd.ntmps12
  go_wp2_with (go_at_call 18; refine (as_nil _ _).mono ?_; rintro e w' ⟨rfl, rfl⟩)
  go_ret
  exact ⟨rfl, (Below.refl _ _).alloc (Nat.le_refl _) _⟩

set_option maxRecDepth 100000 in
set_option maxHeartbeats 800000 in
theorem codeOf_hit (c : Int) (w : World) (hg : M.errT w) :
    Calls Tryd.prog 12 #[.iface 46 (.agg #[.int .i64 c])] w fun e w' => e = .returned (.int .i64 c) ∧ Below w.heap.size w w' := by
  have hlt := M.errT_lt hg
  have hgA : (w.alloc (.cells #[.int .i64 0] 46)).cell? ⟨0, 0, none⟩ = some (.iface 70 (.agg #[.pointer (some ⟨1, 33, none⟩)])) := by
    rw [World.cell?_alloc_lt _ _ ⟨0, 0, none⟩ hlt]; exact hg
  have htA : (w.alloc (.cells #[.int .i64 0] 46)).cell? ⟨w.heap.size, 0, none⟩ = some (.int .i64 0) := by simp
  have hfA : (w.alloc (.cells #[.int .i64 0] 46)).frozen? ⟨w.heap.size, 0, none⟩ = false := by simp
  clear hg
  go_enter Tryd.func12, Tryd.ntmps12
  go_wp2_with (go_at_call 18; refine (as_hit c _ (.int .i64 0) _ hgA htA hfA).mono ?_; rintro e w' ⟨rfl, rfl⟩)
  go_ret
  exact ⟨rfl, (((((Below.refl _ _).alloc (Nat.le_refl _) _).alloc (by simp) _).alloc (by simp; omega) _).alloc (by simp; omega) _).alloc (by simp; omega) _⟩

/-- What lies below reads as before. -/
theorem M.bcell {W w1 : World} (hb : Below W.heap.size W w1) : (∀ b o, b < W.heap.size → w1.cell? ⟨b, o, none⟩ = W.cell? ⟨b, o, none⟩) ∧ (∀ b o, b < W.heap.size → w1.frozen? ⟨b, o, none⟩ = W.frozen? ⟨b, o, none⟩) :=
  ⟨fun b o h => hb.cell (p := ⟨b, o, none⟩) h, fun b o h => hb.frozen (p := ⟨b, o, none⟩) h⟩
theorem M.errT_alloc {w : World} (h : M.errT w) (o : Obj) : M.errT (w.alloc o) := M.errT_below h ((Below.refl _ _).alloc (Nat.le_refl _) o)
end Go.Proofs.YtbmbcfnlpbbapafDoor
