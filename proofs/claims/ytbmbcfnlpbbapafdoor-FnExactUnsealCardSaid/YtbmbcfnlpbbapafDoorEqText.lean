/-
  What eqTextOut of the laws does at two like answers.
-/
import Derived.Test.YtbmbcfnlpbbapafDoorNumAny
namespace Go.Proofs.YtbmbcfnlpbbapafDoor
open Go.RowKit

set_option maxRecDepth 100000 in
set_option maxHeartbeats 800000 in
theorem eqTextOut_same (A : ByteArray) (B C : Int) (w : World) :
    Calls Tryd.prog 7 #[.agg #[.string A, .int .i64 B, .int .i64 C], .agg #[.string A, .int .i64 B, .int .i64 C]] w fun e w' => e = .returned (.bool true) ∧ Below w.heap.size w w' := by
  go_enter Tryd.func7, Tryd.ntmps7
  go_wp2
  go_ret
  exact ⟨rfl, ((Below.refl _ _).alloc (Nat.le_refl _) _).alloc (by simp) _⟩

end Go.Proofs.YtbmbcfnlpbbapafDoor
