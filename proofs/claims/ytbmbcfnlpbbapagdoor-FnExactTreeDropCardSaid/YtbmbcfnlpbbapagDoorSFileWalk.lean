/-
  What l02Is, l02Time, l02File and l02Above of the specification do.
-/
import Derived.Test.YtbmbcfnlpbbapagDoorTreeMath
import Derived.Test.YtbmbcfnlpbbapagDoorSPathWalk
import Derived.Test.YtbmbcfnlpbbapagDoorSIs
import Derived.Test.YtbmbcfnlpbbapagDoorSTime
import Derived.WalkKit
import Derived.WalkSpells
import Derived.WalkLawsBesides
namespace Go.Proofs.YtbmbcfnlpbbapagDoor
open Go.RowKit

theorem M.at_bang {s : ByteArray} {m : Nat} (h : m < s.size) : s.data[m]! = s[m] := by
  have h' : m < s.data.size := h
  rw [getElem!_pos s.data m h']; rfl
theorem M.above_hit {s : ByteArray} {m : Nat} (h : m < s.size) (H : Lib.lastIdx s 47 s.size = Lib.lastIdx s 47 (m + 1)) (hc : ((s[m]'h).toNat : Int) = 47) : M.aboveB s = s.extract 0 m := by
  unfold M.aboveB Lib.lastIndexByte
  rw [H, Lib.lastIdx_hit s 47 m (by rw [M.at_bang h]; exact hc)]
  rfl
theorem M.above_none {s : ByteArray} (H : Lib.lastIdx s 47 s.size = -1) : M.aboveB s = ⟨#[]⟩ := by
  unfold M.aboveB Lib.lastIndexByte
  rw [H]
  show s.extract 0 0 = _
  rw [M.cut_mk]; simp
theorem M.above_miss {s : ByteArray} {m : Nat} (h : m < s.size) (H : Lib.lastIdx s 47 s.size = Lib.lastIdx s 47 (m + 1)) (hc : ((s[m]'h).toNat : Int) ≠ 47) : Lib.lastIdx s 47 s.size = Lib.lastIdx s 47 m := by
  rw [H, Lib.lastIdx_miss s 47 m (by rw [M.at_bang h]; exact hc)]

set_option maxRecDepth 100000 in
set_option maxHeartbeats 1600000 in
theorem sAbove_any (s : ByteArray) (w : World) (hs : s.size ≤ maxLen) :
    Calls Tryd.prog 26 #[.string s] w fun e w' => e = .returned (.string (M.aboveB s)) ∧ w = w' := by
  unfold maxLen at hs
  go_enter Tryd.func26, Tryd.ntmps26
  go_wp2
  go_loop [3] (fun i => ∃ k : Nat, k ≤ s.size ∧ i = .int .i64 ((k : Int) - 1) ∧ Hid (Lib.lastIdx s 47 s.size = Lib.lastIdx s 47 k)) (fun i => (intOf i + 1).toNat)
  case atStart => exact ⟨s.size, Nat.le_refl _, by go_num, rfl⟩
  case round =>
    obtain ⟨k, hk, rfl, HL⟩ := hrel
    cases k with
    | zero =>
      have hE : Hid (M.aboveB s = ⟨#[]⟩) := M.above_none HL.out
      have e0 : ((0 : Nat) : Int) - 1 = -1 := rfl
      rw [e0]
      clear e0
      go_wp2
      go_ret
      exact ⟨by rw [hE.out]; rfl, rfl⟩
    | succ m =>
      have e0 : ((m + 1 : Nat) : Int) - 1 = (m : Int) := by omega
      rw [e0]
      clear e0
      have hlt : m < s.size := by omega
      by_cases hc : ((s[m]'hlt).toNat : Int) = 47
      · have hE : Hid (M.aboveB s = s.extract 0 m) := M.above_hit hlt HL.out hc
        have d1 : (((s[m]'hlt).toNat : Int) == 47) = true := beq_iff_eq.2 hc
        clear HL hc
        go_wp2
        go_ret
        exact ⟨by rw [hE.out]; rfl, rfl⟩
      · have H2 : Hid (Lib.lastIdx s 47 s.size = Lib.lastIdx s 47 m) := M.above_miss hlt HL.out hc
        have d1 : (((s[m]'hlt).toNat : Int) == 47) = false := beq_eq_false_iff_ne.2 hc
        clear HL hc
        go_wp2
        go_round
        case rel => exact ⟨m, by omega, by go_num, H2⟩
        case measure => simp [intOf]
end Go.Proofs.YtbmbcfnlpbbapagDoor
