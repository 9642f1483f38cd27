/-
  What TrailingZeros of the library does at 8, and that 8 is a power of two.
-/
import Derived.Test.YtbmbcfnlpbbapahDoorArrMath
namespace Go.Proofs.YtbmbcfnlpbbapahDoor
open Go.RowKit

/-- The one cell of the library's table that a base of eight asks for. -/
def M.tz (w : World) : Prop := w.cell? ⟨3, 7, none⟩ = some (.int .u8 3)
theorem M.tz.lt {w : World} (h : M.tz w) : 3 < w.heap.size := by
  unfold M.tz at h
  apply Decidable.byContradiction
  intro hn
  rw [World.cell?, Array.getElem?_eq_none (Nat.le_of_not_lt hn)] at h
  simp at h
theorem M.tz.below {w w' : World} (h : M.tz w) (hb : Below w.heap.size w w') : M.tz w' := by
  have hl := h.lt
  unfold M.tz at h ⊢
  rw [hb.cell (p := ⟨3, 7, none⟩) hl]; exact h
theorem M.tz.alloc {w : World} (h : M.tz w) (o : Obj) : M.tz (w.alloc o) := h.below ((Below.refl _ _).alloc (Nat.le_refl _) _)

set_option maxRecDepth 100000 in
set_option maxHeartbeats 400000 in
theorem pow2_8 (w : World) : Calls Tryd.prog 68 #[.int .i64 8] w fun e w' => e = .returned (.bool true) ∧ w = w' := by
  go_enter Tryd.func68, Tryd.ntmps68
  go_wp2
  go_ret
  exact ⟨rfl, rfl⟩
set_option maxRecDepth 100000 in
set_option maxHeartbeats 400000 in
theorem tz64_8 (w : World) (h : M.tz w) : Calls Tryd.prog 76 #[.int .u64 8] w fun e w' => e = .returned (.int .i64 3) ∧ w = w' := by
  unfold M.tz at h
  have e1 : bits BinOp.and IntKind.u64 8 (IntKind.u64.wrap (-8)) = 8 := by decide
  have e2 : IntKind.u64.wrap (8 * 285870213051353865) = 2286961704410830920 := by decide
  go_enter Tryd.func76, Tryd.ntmps76
  go_wp2
  go_ret
  exact ⟨rfl, rfl⟩
set_option maxRecDepth 100000 in
set_option maxHeartbeats 400000 in
theorem tz_8 (w : World) (h : M.tz w) : Calls Tryd.prog 69 #[.int .u64 8] w fun e w' => e = .returned (.int .i64 3) ∧ w = w' := by
  have H : Hid (Calls Tryd.prog 76 #[.int .u64 8] w fun e w' => e = .returned (.int .i64 3) ∧ w = w') := tz64_8 w h
  clear h
  go_enter Tryd.func69, Tryd.ntmps69
  go_wp2_with (go_at_call 76; refine H.out.mono ?_; rintro e w' ⟨rfl, rfl⟩)
  go_ret
  exact ⟨rfl, rfl⟩
end Go.Proofs.YtbmbcfnlpbbapahDoor
