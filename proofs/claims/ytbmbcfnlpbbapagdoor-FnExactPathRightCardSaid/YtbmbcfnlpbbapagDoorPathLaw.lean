/-
  For every text the law of PathRight returns true.
-/
import Derived.Test.YtbmbcfnlpbbapagDoorSPathWalk
import Derived.Test.YtbmbcfnlpbbapagDoorIPathWalk
import Derived.WalkKit
import Derived.WalkSpells
import Derived.WalkLawsBesides
namespace Go.Proofs.YtbmbcfnlpbbapagDoor
open Go.RowKit

set_option maxRecDepth 100000 in
set_option maxHeartbeats 1600000 in
theorem fnExactPathRight_walk (s : ByteArray) (w : World) (hs : s.size ≤ maxLen) (hm : M.ml w) :
    Calls Tryd.prog 3 #[.string s] w fun e w' => e = .returned (.bool true) ∧ Below w.heap.size w w' := by
  have hs' : s.size ≤ 9223372036854775807 := by unfold maxLen at hs; omega
  have HS : Hid (Calls Tryd.prog 7 #[.string s] w fun e w' => e = .returned (.bool (M.pathR s)) ∧ Below w.heap.size w w') := sPath_any s w hs
  have HI : Hid (∀ W, Below w.heap.size w W → Calls Tryd.prog 8 #[.string s] W fun e w' => e = .returned (.bool (M.pathR s)) ∧ Below W.heap.size W w') := fun W hW => iPath_any s W hs (M.ml_below hm hW)
  clear hs hm
  by_cases hbig : 1048576 < s.size
  · go_enter Tryd.func3, Tryd.ntmps3
    go_wp2
    go_ret
    exact ⟨rfl, Below.refl _ _⟩
  have dd : (M.pathR s != M.pathR s) = false := by simp
  generalize M.pathR s = b at HS HI dd
  go_enter Tryd.func3, Tryd.ntmps3
  go_wp2_with fail
  refine HS.out.mono ?_
  rintro e w1 ⟨rfl, hb1⟩
  have HB1 : Hid (Below w.heap.size w w1) := hb1
  clear hb1
  go_wp2_with fail
  refine (HI.out _ HB1.out).mono ?_
  rintro e w2 ⟨rfl, hb2⟩
  have HB2 : Hid (Below w.heap.size w w2) := HB1.out.trans (hb2.mono HB1.out.size)
  clear hb2
  go_wp2
  go_ret
  exact ⟨rfl, HB2.out⟩
end Go.Proofs.YtbmbcfnlpbbapagDoor
