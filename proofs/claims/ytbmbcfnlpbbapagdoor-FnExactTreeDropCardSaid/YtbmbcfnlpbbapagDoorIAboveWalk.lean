/-
  What parentOf, isTime and fileRight of the program do.
-/
import Derived.Test.YtbmbcfnlpbbapagDoorTreeMath
import Derived.Test.YtbmbcfnlpbbapagDoorSFileWalk
import Derived.Test.YtbmbcfnlpbbapagDoorITime
import Derived.Test.YtbmbcfnlpbbapagDoorIPathWalk
import Derived.WalkKit
import Derived.WalkSpells
import Derived.WalkLawsBesides
namespace Go.Proofs.YtbmbcfnlpbbapagDoor
open Go.RowKit

set_option maxRecDepth 100000 in
set_option maxHeartbeats 1600000 in
theorem iAbove_any (s : ByteArray) (w : World) (hs : s.size ≤ 1000000000) :
    Calls Tryd.prog 31 #[.string s] w fun e w' => e = .returned (.string (M.aboveB s)) ∧ w = w' := by
  have hL : ∀ W, Calls Tryd.prog 43 #[.string s, .int .u8 47] W fun e w' => e = .returned (.int .i64 (Lib.lastIndexByte s 47)) ∧ W = w' := fun W => by
    refine (Tryd.strings_LastIndexByte s 47 (by omega) W).mono ?_
    rintro e w' ⟨rfl, rfl⟩
    exact ⟨rfl, rfl⟩
  rcases Lib.lastIndexByte_spec s 47 with ⟨e1, _⟩ | ⟨i, hi, e1, _⟩
  · rw [e1] at hL
    have hE : Hid (M.aboveB s = ⟨#[]⟩) := M.above_none e1
    have HL : Hid (∀ W, Calls Tryd.prog 43 #[.string s, .int .u8 47] W fun e w' => e = .returned (.int .i64 (-1)) ∧ W = w') := hL
    have hx : Hid (s.extract 0 0 = ⟨#[]⟩) := by show _ = _; rw [M.cut_mk]; simp
    clear hL e1
    go_enter Tryd.func31, Tryd.ntmps31
    go_wp2_with (go_at_call 43; refine (HL.out _).mono ?_; rintro e w' ⟨rfl, rfl⟩)
    go_ret
    exact ⟨by rw [hE.out, ← hx.out]; rfl, rfl⟩
  · rw [e1] at hL
    have hE : Hid (M.aboveB s = s.extract 0 i) := by show s.extract 0 (Lib.lastIndexByte s 47).toNat = _; rw [e1]; rfl
    have HL : Hid (∀ W, Calls Tryd.prog 43 #[.string s, .int .u8 47] W fun e w' => e = .returned (.int .i64 (i : Int)) ∧ W = w') := hL
    clear hL e1
    go_enter Tryd.func31, Tryd.ntmps31
    go_wp2_with (go_at_call 43; refine (HL.out _).mono ?_; rintro e w' ⟨rfl, rfl⟩)
    go_ret
    exact ⟨by rw [hE.out]; rfl, rfl⟩

end Go.Proofs.YtbmbcfnlpbbapagDoor
