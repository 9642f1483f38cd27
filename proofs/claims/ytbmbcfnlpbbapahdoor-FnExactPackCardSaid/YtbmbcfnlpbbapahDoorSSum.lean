/-
  What l03Sum of the specification does.
-/
import Derived.Test.YtbmbcfnlpbbapahDoorRows
import Derived.Test.YtbmbcfnlpbbapahDoorOctMath
import Derived.WalkKit
import Derived.WalkSpells
import Derived.WalkLawsBesides
namespace Go.Proofs.YtbmbcfnlpbbapahDoor
open Go.RowKit

set_option maxRecDepth 100000 in
set_option maxHeartbeats 1600000 in
theorem sSum_any (s : ByteArray) (w : World) (hs : s.size ≤ 1000000) :
    Calls Tryd.prog 38 #[.string s] w fun e w' => e = .returned (.int .i64 (M.sumH s)) ∧ w = w' := by
  go_enter Tryd.func38, Tryd.ntmps38
  go_wp2
  go_loop [3, 4] (fun x i => ∃ k n : Nat, k ≤ s.size ∧ i = .int .i64 k ∧ x = .int .i64 n ∧ n ≤ 255 * k ∧ Hid (n = M.sumK s k)) (fun _ i => s.size - (intOf i).toNat)
  case atStart => exact ⟨0, 0, Nat.zero_le _, rfl, rfl, Nat.zero_le _, rfl⟩
  case round =>
    obtain ⟨k, n, hk, rfl, rfl, hn, HV⟩ := hrel
    by_cases hlt : k < s.size
    · have hle := M.sumK_le s (k + 1)
      rcases (show (148 ≤ k ∧ k < 156) ∨ k < 148 ∨ 156 ≤ k from by omega) with ⟨ha, hb⟩ | ha | ha
      · have HV2 : Hid (n + 32 = M.sumK s (k + 1)) := by show _ = _; rw [M.sumK_in ha hb, HV.out]
        have hn2 : n + 32 ≤ 255 * (k + 1) := by rw [HV2.out]; exact hle
        have e2 : decide ((k : Int) < 156) = true := decide_eq_true (by omega)
        clear hle
        go_wp2
        go_round
        case rel => exact ⟨k + 1, n + 32, by omega, by go_num, by go_num, hn2, HV2⟩
        case measure => simp [intOf]; omega
      · have HV2 : Hid (n + (s[k]'hlt).toNat = M.sumK s (k + 1)) := by show _ = _; rw [M.sumK_out hlt (.inl ha), HV.out]
        have hn2 : n + (s[k]'hlt).toNat ≤ 255 * (k + 1) := by rw [HV2.out]; exact hle
        clear hle
        go_wp2
        go_round
        case rel => exact ⟨k + 1, n + (s[k]'hlt).toNat, by omega, by go_num, by go_num, hn2, HV2⟩
        case measure => simp [intOf]; omega
      · have HV2 : Hid (n + (s[k]'hlt).toNat = M.sumK s (k + 1)) := by show _ = _; rw [M.sumK_out hlt (.inr ha), HV.out]
        have hn2 : n + (s[k]'hlt).toNat ≤ 255 * (k + 1) := by rw [HV2.out]; exact hle
        have e2 : decide ((k : Int) < 156) = false := decide_eq_false (by omega)
        clear hle
        go_wp2
        go_round
        case rel => exact ⟨k + 1, n + (s[k]'hlt).toNat, by omega, by go_num, by go_num, hn2, HV2⟩
        case measure => simp [intOf]; omega
    · have hE : Hid (M.sumH s = n) := by
        show _ = _
        unfold M.sumH
        rw [HV.out, show k = s.size by omega]
      go_wp2
      go_ret
      exact ⟨by rw [hE.out]; rfl, rfl⟩

end Go.Proofs.YtbmbcfnlpbbapahDoor
