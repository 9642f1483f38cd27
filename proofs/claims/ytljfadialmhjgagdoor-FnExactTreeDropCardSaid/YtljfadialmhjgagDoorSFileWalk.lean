/-
  What l02Is, l02Time, l02File and l02Above of the specification do.
-/
import Derived.Test.YtljfadialmhjgagDoorTreeMath
import Derived.Test.YtljfadialmhjgagDoorSPathWalk
import Derived.WalkKit
import Derived.WalkSpells
import Derived.WalkLawsBesides
namespace Go.Proofs.YtljfadialmhjgagDoor
open Go.RowKit

set_option maxHeartbeats 400000 in
theorem sIs_any (n lo hi : Int) (w : World) :
    Calls Tryd.prog 40 #[.int .i64 n, .int .i64 lo, .int .i64 hi] w fun e w' => e = .returned (.bool (decide (lo ≤ n ∧ n ≤ hi))) ∧ w = w' := by
  by_cases ha : lo ≤ n
  · by_cases hb : n ≤ hi
    · have hE : Hid (decide (lo ≤ n ∧ n ≤ hi) = true) := decide_eq_true ⟨ha, hb⟩
      have d1 : decide (lo ≤ n) = true := decide_eq_true ha
      have d2 : decide (n ≤ hi) = true := decide_eq_true hb
      go_enter Tryd.func40, Tryd.ntmps40
      go_wp2
      go_ret
      exact ⟨by first | rfl | (rw [hE.out]; rfl), rfl⟩
    · have hE : Hid (decide (lo ≤ n ∧ n ≤ hi) = false) := decide_eq_false (fun h => hb h.2)
      have d1 : decide (lo ≤ n) = true := decide_eq_true ha
      have d2 : decide (n ≤ hi) = false := decide_eq_false hb
      go_enter Tryd.func40, Tryd.ntmps40
      go_wp2
      go_ret
      exact ⟨by first | rfl | (rw [hE.out]; rfl), rfl⟩
  · have hE : Hid (decide (lo ≤ n ∧ n ≤ hi) = false) := decide_eq_false (fun h => ha h.1)
    have d1 : decide (lo ≤ n) = false := decide_eq_false ha
    go_enter Tryd.func40, Tryd.ntmps40
    go_wp2
    go_ret
    exact ⟨by first | rfl | (rw [hE.out]; rfl), rfl⟩

set_option maxHeartbeats 400000 in
theorem sTime_any (n : Int) (w : World) :
    Calls Tryd.prog 41 #[.int .i64 n] w fun e w' => e = .returned (.bool (decide (0 ≤ n ∧ n ≤ 1000000000))) ∧ w = w' := by
  have HI : Hid (∀ W, Calls Tryd.prog 40 #[.int .i64 n, .int .i64 0, .int .i64 1000000000] W fun e w' => e = .returned (.bool (decide (0 ≤ n ∧ n ≤ 1000000000))) ∧ W = w') := fun W => sIs_any n 0 1000000000 W
  generalize decide (0 ≤ n ∧ n ≤ 1000000000) = b at HI
  go_enter Tryd.func41, Tryd.ntmps41
  go_wp2_with (go_at_call 40; refine (HI.out _).mono ?_; rintro e w' ⟨rfl, rfl⟩)
  go_ret
  exact ⟨rfl, rfl⟩

theorem M.at_bang {s : ByteArray} {m : Nat} (h : m < s.size) : s.data[m]! = s[m] := by
  have h' : m < s.data.size := h
  rw [getElem!_pos s.data m h']; rfl
theorem M.above_hit {s : ByteArray} {m : Nat} (h : m < s.size) (H : Lib.lastIdx s 47 s.size = Lib.lastIdx s 47 (m + 1)) (hc : ((s[m]'h).toNat : Int) = 47) : M.aboveB s = s.extract 0 m := by
  unfold M.aboveB Lib.lastIndexByte
  rw [H, Lib.lastIdx_hit s 47 m (by rw [M.at_bang h]; exact hc)]
  rfl
theorem M.above_none {s : ByteArray} (H : Lib.lastIdx s 47 s.size = -1) : M.aboveB s = ⟨#[]⟩ := by
  unfold M.aboveB Lib.lastIndexByte
  rw [H]
  show s.extract 0 0 = _
  rw [M.cut_mk]; simp
theorem M.above_miss {s : ByteArray} {m : Nat} (h : m < s.size) (H : Lib.lastIdx s 47 s.size = Lib.lastIdx s 47 (m + 1)) (hc : ((s[m]'h).toNat : Int) ≠ 47) : Lib.lastIdx s 47 s.size = Lib.lastIdx s 47 m := by
  rw [H, Lib.lastIdx_miss s 47 m (by rw [M.at_bang h]; exact hc)]

set_option maxRecDepth 100000 in
set_option maxHeartbeats 1600000 in
theorem sAbove_any (s : ByteArray) (w : World) (hs : s.size ≤ maxLen) :
    Calls Tryd.prog 26 #[.string s] w fun e w' => e = .returned (.string (M.aboveB s)) ∧ w = w' := by
  unfold maxLen at hs
  go_enter Tryd.func26, Tryd.ntmps26
  go_wp2
  go_loop [3] (fun i => ∃ k : Nat, k ≤ s.size ∧ i = .int .i64 ((k : Int) - 1) ∧ Hid (Lib.lastIdx s 47 s.size = Lib.lastIdx s 47 k)) (fun i => (intOf i + 1).toNat)
  case atStart => exact ⟨s.size, Nat.le_refl _, by go_num, rfl⟩
  case round =>
    obtain ⟨k, hk, rfl, HL⟩ := hrel
    cases k with
    | zero =>
      have hE : Hid (M.aboveB s = ⟨#[]⟩) := M.above_none HL.out
      have e0 : ((0 : Nat) : Int) - 1 = -1 := rfl
      rw [e0]
      clear e0
      go_wp2
      go_ret
      exact ⟨by rw [hE.out]; rfl, rfl⟩
    | succ m =>
      have e0 : ((m + 1 : Nat) : Int) - 1 = (m : Int) := by omega
      rw [e0]
      clear e0
      have hlt : m < s.size := by omega
      by_cases hc : ((s[m]'hlt).toNat : Int) = 47
      · have hE : Hid (M.aboveB s = s.extract 0 m) := M.above_hit hlt HL.out hc
        have d1 : (((s[m]'hlt).toNat : Int) == 47) = true := beq_iff_eq.2 hc
        clear HL hc
        go_wp2
        go_ret
        exact ⟨by rw [hE.out]; rfl, rfl⟩
      · have H2 : Hid (Lib.lastIdx s 47 s.size = Lib.lastIdx s 47 m) := M.above_miss hlt HL.out hc
        have d1 : (((s[m]'hlt).toNat : Int) == 47) = false := beq_eq_false_iff_ne.2 hc
        clear HL hc
        go_wp2
        go_round
        case rel => exact ⟨m, by omega, by go_num, H2⟩
        case measure => simp [intOf]
end Go.Proofs.YtljfadialmhjgagDoor
