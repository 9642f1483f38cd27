/-
  What parentOf, isTime and fileRight of the program do.
-/
import Derived.Test.YtljfadialmhjgagDoorTreeMath
import Derived.Test.YtljfadialmhjgagDoorSFileWalk
import Derived.Test.YtljfadialmhjgagDoorIPathWalk
import Derived.WalkKit
import Derived.WalkSpells
import Derived.WalkLawsBesides
namespace Go.Proofs.YtljfadialmhjgagDoor
open Go.RowKit

set_option maxRecDepth 100000 in
set_option maxHeartbeats 1600000 in
theorem iAbove_any (s : ByteArray) (w : World) (hs : s.size ≤ 1000000000) :
    Calls Tryd.prog 31 #[.string s] w fun e w' => e = .returned (.string (M.aboveB s)) ∧ w = w' := by
  have hL : ∀ W, Calls Tryd.prog 43 #[.string s, .int .u8 47] W fun e w' => e = .returned (.int .i64 (Lib.lastIndexByte s 47)) ∧ W = w' := fun W => by
    refine (Tryd.strings_LastIndexByte s 47 (by omega) W).mono ?_
    rintro e w' ⟨rfl, rfl⟩
    exact ⟨rfl, rfl⟩
  rcases Lib.lastIndexByte_spec s 47 with ⟨e1, _⟩ | ⟨i, hi, e1, _⟩
  · rw [e1] at hL
    have hE : Hid (M.aboveB s = ⟨#[]⟩) := M.above_none e1
    have HL : Hid (∀ W, Calls Tryd.prog 43 #[.string s, .int .u8 47] W fun e w' => e = .returned (.int .i64 (-1)) ∧ W = w') := hL
    have hx : Hid (s.extract 0 0 = ⟨#[]⟩) := by show _ = _; rw [M.cut_mk]; simp
    clear hL e1
    go_enter Tryd.func31, Tryd.ntmps31
    go_wp2_with (go_at_call 43; refine (HL.out _).mono ?_; rintro e w' ⟨rfl, rfl⟩)
    go_ret
    exact ⟨by rw [hE.out, ← hx.out]; rfl, rfl⟩
  · rw [e1] at hL
    have hE : Hid (M.aboveB s = s.extract 0 i) := by show s.extract 0 (Lib.lastIndexByte s 47).toNat = _; rw [e1]; rfl
    have HL : Hid (∀ W, Calls Tryd.prog 43 #[.string s, .int .u8 47] W fun e w' => e = .returned (.int .i64 (i : Int)) ∧ W = w') := hL
    clear hL e1
    go_enter Tryd.func31, Tryd.ntmps31
    go_wp2_with (go_at_call 43; refine (HL.out _).mono ?_; rintro e w' ⟨rfl, rfl⟩)
    go_ret
    exact ⟨by rw [hE.out]; rfl, rfl⟩

set_option maxHeartbeats 400000 in
theorem iTime_any (n : Int) (w : World) :
    Calls Tryd.prog 53 #[.int .i64 n] w fun e w' => e = .returned (.bool (decide (0 ≤ n ∧ n ≤ 1000000000))) ∧ w = w' := by
  by_cases ha : 0 ≤ n
  · by_cases hb : n ≤ 1000000000
    · have hE : Hid (decide (0 ≤ n ∧ n ≤ 1000000000) = true) := decide_eq_true ⟨ha, hb⟩
      have d1 : decide (0 ≤ n) = true := decide_eq_true ha
      have d2 : decide (n ≤ 1000000000) = true := decide_eq_true hb
      go_enter Tryd.func53, Tryd.ntmps53
      go_wp2
      go_ret
      exact ⟨by first | rfl | (rw [hE.out]; rfl), rfl⟩
    · have hE : Hid (decide (0 ≤ n ∧ n ≤ 1000000000) = false) := decide_eq_false (fun h => hb h.2)
      have d1 : decide (0 ≤ n) = true := decide_eq_true ha
      have d2 : decide (n ≤ 1000000000) = false := decide_eq_false hb
      go_enter Tryd.func53, Tryd.ntmps53
      go_wp2
      go_ret
      exact ⟨by first | rfl | (rw [hE.out]; rfl), rfl⟩
  · have hE : Hid (decide (0 ≤ n ∧ n ≤ 1000000000) = false) := decide_eq_false (fun h => ha h.1)
    have d1 : decide (0 ≤ n) = false := decide_eq_false ha
    go_enter Tryd.func53, Tryd.ntmps53
    go_wp2
    go_ret
    exact ⟨by first | rfl | (rw [hE.out]; rfl), rfl⟩
end Go.Proofs.YtljfadialmhjgagDoor
