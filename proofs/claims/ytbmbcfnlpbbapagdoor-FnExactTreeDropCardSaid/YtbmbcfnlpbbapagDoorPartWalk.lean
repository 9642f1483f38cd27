/-
  What partRight of the program does: it tells whether a text is a part of a path.
-/
import Derived.Test.YtbmbcfnlpbbapagDoorRows
import Derived.Test.YtbmbcfnlpbbapagDoorPathMath
import Derived.WalkKit
import Derived.WalkSpells
import Derived.WalkLawsBesides
namespace Go.Proofs.YtbmbcfnlpbbapagDoor
open Go.RowKit

theorem M.dot_eq {q : ByteArray} (h : q.toList = [46]) : M.partR q.data.toList = false := by rw [← ByteArray.toList_eq, h]; exact M.partR_dot
theorem M.dots_eq {q : ByteArray} (h : q.toList = [46, 46]) : M.partR q.data.toList = false := by rw [← ByteArray.toList_eq, h]; exact M.partR_dots
theorem M.mem_at {q : ByteArray} {k : Nat} (h : k < q.size) : q[k] ∈ q.data.toList := by
  rw [Array.mem_toList_iff]
  exact Array.getElem_mem (xs := q.data) h
theorem M.at_mem {q : ByteArray} {c : UInt8} (h : c ∈ q.data.toList) : ∃ k, ∃ h : k < q.size, q[k] = c := by
  rw [Array.mem_toList_iff] at h
  obtain ⟨k, hk, e⟩ := Array.mem_iff_getElem.1 h
  exact ⟨k, hk, e⟩
theorem M.len_size (q : ByteArray) : q.data.toList.length = q.size := by rw [Lib.size_eq]

set_option maxRecDepth 100000 in
set_option maxHeartbeats 1600000 in
theorem iPart_any (q : ByteArray) (w : World) (hs : q.size ≤ maxLen) :
    Calls Tryd.prog 23 #[.string q] w fun e w' => e = .returned (.bool (M.partR q.data.toList)) ∧ w = w' := by
  unfold maxLen at hs
  by_cases hlo : q.size < 1
  · have hE : Hid (M.partR q.data.toList = false) := M.partR_short (by rw [M.len_size]; exact hlo)
    go_enter Tryd.func23, Tryd.ntmps23
    go_wp2
    go_ret
    exact ⟨by rw [hE.out]; rfl, rfl⟩
  by_cases hhi : 60 < q.size
  · have hE : Hid (M.partR q.data.toList = false) := M.partR_long (by rw [M.len_size]; exact hhi)
    go_enter Tryd.func23, Tryd.ntmps23
    go_wp2
    go_ret
    exact ⟨by rw [hE.out]; rfl, rfl⟩
  cases d1 : (q.toList == [46])
  case true =>
    have hE : Hid (M.partR q.data.toList = false) := M.dot_eq (by simpa using d1)
    go_enter Tryd.func23, Tryd.ntmps23
    go_wp2
    go_ret
    exact ⟨by rw [hE.out]; rfl, rfl⟩
  cases d2 : (q.toList == [46, 46])
  case true =>
    have hE : Hid (M.partR q.data.toList = false) := M.dots_eq (by simpa using d2)
    go_enter Tryd.func23, Tryd.ntmps23
    go_wp2
    go_ret
    exact ⟨by rw [hE.out]; rfl, rfl⟩
  have g1 : q.data.toList ≠ [46] := by rw [← ByteArray.toList_eq]; simpa using d1
  have g2 : q.data.toList ≠ [46, 46] := by rw [← ByteArray.toList_eq]; simpa using d2
  have G1 : Hid (q.data.toList ≠ [46]) := g1
  have G2 : Hid (q.data.toList ≠ [46, 46]) := g2
  clear g1 g2
  go_enter Tryd.func23, Tryd.ntmps23
  go_wp2
  go_loop [3] (fun i => ∃ k : Nat, k ≤ q.size ∧ i = .int .i64 k ∧ Hid (∀ j, ∀ h : j < q.size, j < k → M.okC q[j] = true)) (fun i => q.size - (intOf i).toNat)
  case atStart => exact ⟨0, Nat.zero_le _, rfl, fun j _ hj => absurd hj (Nat.not_lt_zero _)⟩
  case round =>
    obtain ⟨k, hk, rfl, hall⟩ := hrel
    by_cases hlt : k < q.size
    · rcases (show ((q[k]'hlt).toNat : Int) < 33 ∨ 126 < ((q[k]'hlt).toNat : Int) ∨ (33 ≤ ((q[k]'hlt).toNat : Int) ∧ ((q[k]'hlt).toNat : Int) ≤ 126) from by omega) with ha | ha | ⟨ha, hb⟩
      · have hE : Hid (M.partR q.data.toList = false) := M.partR_bad (M.mem_at hlt) (M.okC_lo ha)
        clear hall
        go_wp2
        go_ret
        exact ⟨by rw [hE.out]; rfl, rfl⟩
      · have hE : Hid (M.partR q.data.toList = false) := M.partR_bad (M.mem_at hlt) (M.okC_hi ha)
        have e1 : decide (126 < ((q[k]'hlt).toNat : Int)) = true := decide_eq_true ha
        clear hall
        go_wp2
        go_ret
        exact ⟨by rw [hE.out]; rfl, rfl⟩
      · have H : Hid (∀ j, ∀ h : j < q.size, j < k + 1 → M.okC q[j] = true) := fun j h hj => by
          by_cases e : j = k
          · subst e; exact M.okC_yes ha hb
          · exact hall.out j h (by omega)
        have e1 : decide (126 < ((q[k]'hlt).toNat : Int)) = false := decide_eq_false (by omega)
        clear hall
        go_wp2
        go_round
        case rel => exact ⟨k + 1, by omega, by go_num, H⟩
        case measure => simp [intOf]; omega
    · have hE : Hid (M.partR q.data.toList = true) := M.partR_good (by rw [M.len_size]; omega) (by rw [M.len_size]; omega) G1.out G2.out (fun c hc => by
        obtain ⟨j, hj, rfl⟩ := M.at_mem hc
        exact hall.out j hj (by omega))
      go_wp2
      go_ret
      exact ⟨by rw [hE.out]; rfl, rfl⟩
end Go.Proofs.YtbmbcfnlpbbapagDoor
