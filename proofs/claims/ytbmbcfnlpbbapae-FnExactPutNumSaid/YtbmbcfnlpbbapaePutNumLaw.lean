/-
  The law over PutNum.
-/
import Derived.Test.YtbmbcfnlpbbapaeNumWalks
namespace Go.Proofs.Ytbmbcfnlpbbapae
open Go.RowKit

set_option maxHeartbeats 400000 in
theorem fnExactPutNum_walk (n : Int) (w : World) (h1 : -9223372036854775808 ≤ n) (h2 : n ≤ 9223372036854775807) :
    Calls Try.prog 3 #[.int .i64 n] w fun e w' => e = .returned (.bool true) ∧ Below w.heap.size w w' := by
  go_enter Try.func3, Try.ntmps3
  go_wp2_with (first | (go_at_call 5; refine (sPutNum_any _ _ h1 h2).mono ?_; rintro e w1 ⟨rfl, hb1⟩) | (go_at_call 6; refine (iPutNum_any _ _ h1 h2).mono ?_; rintro e w2 ⟨rfl, hb2⟩))
  go_ret
  exact ⟨rfl, hb1.trans (hb2.mono hb1.size)⟩
end Go.Proofs.Ytbmbcfnlpbbapae
