/-
  HeaderOf of the program answers as that of the specification.
-/
import Derived.Test.YtbmbcfnlpbbapahDoorIHeadAny
import Derived.Test.YtbmbcfnlpbbapahDoorSHeaderOf
namespace Go.Proofs.YtbmbcfnlpbbapahDoor
open Go.RowKit

set_option maxHeartbeats 800000 in
theorem fnExactHeaderOf_walk (name : ByteArray) (size mode time kind : Int) (w : World) (hn : name.size ≤ maxLen) (s1 : -9223372036854775808 ≤ size) (s2 : size ≤ 9223372036854775807) (m1 : -9223372036854775808 ≤ mode) (m2 : mode ≤ 9223372036854775807)
    (t1 : -9223372036854775808 ≤ time) (t2 : time ≤ 9223372036854775807) (_ : -9223372036854775808 ≤ kind) (_ : kind ≤ 9223372036854775807) (ht : M.tz w) :
    Calls Tryd.prog 4 #[.string name, .int .i64 size, .int .i64 mode, .int .i64 time, .int .i64 kind] w fun e w' => e = .returned (.bool true) ∧ Below w.heap.size w w' := by
  have hs' := hn
  unfold maxLen at hs'
  by_cases h : 1048576 < name.size
  · go_enter Tryd.func4, Tryd.ntmps4
    go_wp2
    go_ret
    exact ⟨rfl, Below.refl _ _⟩
  obtain ⟨b, hb⟩ : ∃ b, M.headerOf name size mode time kind = b := ⟨_, rfl⟩
  have H1 : Hid (∀ W, Calls Tryd.prog 8 #[.string name, .int .i64 size, .int .i64 mode, .int .i64 time, .int .i64 kind] W fun e w' => e = .returned (.string b) ∧ Below W.heap.size W w') := fun W => by have := sHeadOf_any name size mode time kind W hn; rwa [hb] at this
  have H2 : Hid (∀ W, M.tz W → Calls Tryd.prog 9 #[.string name, .int .i64 size, .int .i64 mode, .int .i64 time, .int .i64 kind] W fun e w' => e = .returned (.string b) ∧ Below W.heap.size W w') := fun W ht => by have := iHeadOf_any name size mode time kind W hn s1 s2 m1 m2 t1 t2 ht; rwa [hb] at this
  have HT : Hid (M.tz w) := ht
  clear hb ht
  go_enter Tryd.func4, Tryd.ntmps4
  go_wp2_with fail
  refine (H1.out _).mono ?_
  rintro e w1 ⟨rfl, hb1⟩
  have HT1 : Hid (M.tz w1) := HT.out.below hb1
  have HB1 : Hid (Below w.heap.size w w1) := hb1
  clear hb1
  go_wp2_with fail
  refine (H2.out _ HT1.out).mono ?_
  rintro e w2 ⟨rfl, hb2⟩
  have HB2 : Hid (Below w.heap.size w w2) := HB1.out.trans (hb2.mono HB1.out.size)
  clear hb2
  go_wp2
  go_ret
  exact ⟨rfl, HB2.out⟩
end Go.Proofs.YtbmbcfnlpbbapahDoor
