/-
  What OctalRead of the program does.
-/
import Derived.Test.YtephjmlcbpfnaaaGreatDoorRows
import Derived.Test.YtephjmlcbpfnaaaGreatDoorPart6
import Derived.WalkKit
import Derived.WalkSpells
import Derived.WalkLawsBesides
namespace Go.Proofs.YtephjmlcbpfnaaaGreatDoor
open Go.RowKit

set_option maxRecDepth 100000 in
set_option maxHeartbeats 1600000 in
theorem iOctR_any (s : ByteArray) (w : World) (hs : s.size ≤ maxLen) :
    Calls Tryz.prog 154 #[.string s] w fun e w' => e = .returned (.int .i64 (M.octR s)) ∧ w = w' := by
  unfold maxLen at hs
  by_cases hlo : s.size < 1
  · have hE : Hid (M.octR s = -1) := M.octR_size (.inl hlo)
    go_enter Tryz.func154, Tryz.ntmps154
    go_wp2
    go_ret
    exact ⟨by rw [hE.out]; rfl, rfl⟩
  by_cases hhi : 20 < s.size
  · have hE : Hid (M.octR s = -1) := M.octR_size (.inr hhi)
    go_enter Tryz.func154, Tryz.ntmps154
    go_wp2
    go_ret
    exact ⟨by rw [hE.out]; rfl, rfl⟩
  go_enter Tryz.func154, Tryz.ntmps154
  go_wp2
  go_loop [3, 4] (fun x i => ∃ k n : Nat, k ≤ s.size ∧ i = .int .i64 k ∧ x = .int .i64 n ∧ n < 1152921504606846976 ∧ Hid (n = M.octV (s.data.toList.take k)) ∧ Hid (∀ j, ∀ h : j < s.size, j < k → M.isOct s[j] = true)) (fun _ i => s.size - (intOf i).toNat)
  case atStart => exact ⟨0, 0, Nat.zero_le _, rfl, rfl, by decide, rfl, fun j _ hj => absurd hj (Nat.not_lt_zero _)⟩
  case round =>
    obtain ⟨k, n, hk, rfl, rfl, hn, HV, hall⟩ := hrel
    by_cases hlt : k < s.size
    · rcases (show ((s[k]'hlt).toNat : Int) < 48 ∨ 55 < ((s[k]'hlt).toNat : Int) ∨ (48 ≤ ((s[k]'hlt).toNat : Int) ∧ ((s[k]'hlt).toNat : Int) ≤ 55) from by omega) with ha | ha | ⟨ha, hb⟩
      · have hE : Hid (M.octR s = -1) := M.octR_bad (M.memAt hlt) (M.isOct_lo ha)
        clear hall
        go_wp2
        go_ret
        exact ⟨by rw [hE.out]; rfl, rfl⟩
      · have hE : Hid (M.octR s = -1) := M.octR_bad (M.memAt hlt) (M.isOct_hi ha)
        have e1 : decide (55 < ((s[k]'hlt).toNat : Int)) = true := decide_eq_true ha
        clear hall
        go_wp2
        go_ret
        exact ⟨by rw [hE.out]; rfl, rfl⟩
      · have H : ∀ j, ∀ h : j < s.size, j < k + 1 → M.isOct s[j] = true := fun j h hj => by
          by_cases e : j = k
          · subst e; exact M.isOct_yes ha hb
          · exact hall.out j h (by omega)
        have HH : Hid (∀ j, ∀ h : j < s.size, j < k + 1 → M.isOct s[j] = true) := H
        have HV2 : Hid (8 * n + ((s[k]'hlt).toNat - 48) = M.octV (s.data.toList.take (k + 1))) := by
          show _ = _
          rw [M.takeAt s k hlt, M.octV_snoc, HV.out]
        have hb2 : 8 * n + ((s[k]'hlt).toNat - 48) < 1152921504606846976 := by
          rw [HV2.out]; exact M.octV_le s (k + 1) (by omega) H
        have e1 : decide (55 < ((s[k]'hlt).toNat : Int)) = false := decide_eq_false (by omega)
        clear hall H
        go_wp2
        go_round
        case rel => exact ⟨k + 1, 8 * n + ((s[k]'hlt).toNat - 48), by omega, by go_num, by go_num, hb2, HV2, HH⟩
        case measure => simp [intOf]; omega
    · have hE : Hid (M.octR s = (n : Int)) := by
        show _ = _
        rw [M.octR_good (by omega) (by omega) (fun c hc => by
          obtain ⟨j, hj, rfl⟩ := M.atMem hc
          exact hall.out j hj (by omega)), HV.out, List.take_of_length_le (by rw [← Lib.size_eq]; omega)]
      go_wp2
      go_ret
      exact ⟨by rw [hE.out]; rfl, rfl⟩

end Go.Proofs.YtephjmlcbpfnaaaGreatDoor
