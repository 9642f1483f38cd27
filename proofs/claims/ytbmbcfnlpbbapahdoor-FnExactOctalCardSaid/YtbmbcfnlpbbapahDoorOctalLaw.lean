/-
  Octal of the program answers as that of the specification, at every number and every many digits.
-/
import Derived.Test.YtbmbcfnlpbbapahDoorIOctal
import Derived.Test.YtbmbcfnlpbbapahDoorSOctal
namespace Go.Proofs.YtbmbcfnlpbbapahDoor
open Go.RowKit

set_option maxHeartbeats 400000 in
theorem fnExactOctal_walk (n d : Int) (w : World) (h1 : -9223372036854775808 ≤ n) (h2 : n ≤ 9223372036854775807) (_ : -9223372036854775808 ≤ d) (_ : d ≤ 9223372036854775807) (ht : M.tz w) :
    Calls Tryd.prog 3 #[.int .i64 n, .int .i64 d] w fun e w' => e = .returned (.bool true) ∧ Below w.heap.size w w' := by
  obtain ⟨b, hb⟩ : ∃ b, M.octal n d = b := ⟨_, rfl⟩
  have H1 : Hid (∀ W, Calls Tryd.prog 6 #[.int .i64 n, .int .i64 d] W fun e w' => e = .returned (.string b) ∧ Below W.heap.size W w') := fun W => by have := sOctal_any n d W h1 h2; rwa [hb] at this
  have H2 : Hid (∀ W, M.tz W → Calls Tryd.prog 7 #[.int .i64 n, .int .i64 d] W fun e w' => e = .returned (.string b) ∧ Below W.heap.size W w') := fun W ht => by have := iOctal_any n d W h1 h2 ht; rwa [hb] at this
  have HT : Hid (M.tz w) := ht
  clear hb ht
  go_enter Tryd.func3, Tryd.ntmps3
  go_wp2_with fail
  refine (H1.out _).mono ?_
  rintro e w1 ⟨rfl, hb1⟩
  have HT1 : Hid (M.tz w1) := HT.out.below hb1
  have HB1 : Hid (Below w.heap.size w w1) := hb1
  clear hb1
  go_wp2_with fail
  refine (H2.out _ HT1.out).mono ?_
  rintro e w2 ⟨rfl, hb2⟩
  have HB2 : Hid (Below w.heap.size w w2) := HB1.out.trans (hb2.mono HB1.out.size)
  clear hb2
  go_wp2
  go_ret
  exact ⟨rfl, HB2.out⟩
end Go.Proofs.YtbmbcfnlpbbapahDoor
