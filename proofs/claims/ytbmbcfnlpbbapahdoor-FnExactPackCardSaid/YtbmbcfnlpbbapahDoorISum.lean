/-
  What the program's sum of a header does.
-/
import Derived.Test.YtbmbcfnlpbbapahDoorHeadZero
import Derived.Deep.QuietTactic
import Derived.BigQuiet
namespace Go.Proofs.YtbmbcfnlpbbapahDoor
open Go.RowKit

set_option maxRecDepth 100000 in
set_option maxHeartbeats 1600000 in
theorem iSum_any (b : Nat) (L : List UInt8) (w : World) (hL : L.length = 512) (hR : M.BRow w b L) :
    Calls Tryd.prog 39 #[.pointer (some ⟨b, 0, none⟩)] w fun e w' => e = .returned (.int .i64 (M.sumH ⟨L.toArray⟩)) ∧ ∃ n, w' = w.drewN n := by
  have HR : Hid (∀ j, ∀ h : j < L.length, w.cell? ⟨b, j, none⟩ = some (.int .u8 ((L[j]).toNat : Int))) := fun j h => hR.cell j h
  clear hR
  go_enter Tryd.func39, Tryd.ntmps39
  go_wp2
  go_loopw [3, 7] (fun x i wr => ∃ k n d : Nat, k ≤ 512 ∧ i = .int .i64 k ∧ x = .int .i64 n ∧ n ≤ 255 * k ∧ Hid (n = M.sumK ⟨L.toArray⟩ k) ∧ wr = w.drewN d) (fun _ i _ => 512 - (intOf i).toNat)
  case atStart => exact ⟨0, 0, 0, Nat.zero_le _, rfl, rfl, Nat.zero_le _, rfl, by rw [World.drewN_zero]⟩
  case round =>
    obtain ⟨k, n, d, hk, rfl, rfl, hn, HV, rfl⟩ := hrel
    by_cases hlt : k < 512
    · have hc := HR.out k (by omega)
      have hle := M.sumK_le ⟨L.toArray⟩ (k + 1)
      have hS : Hid (M.sumK ⟨L.toArray⟩ (k + 1) = M.sumK ⟨L.toArray⟩ k + M.sumC k (L[k]'(by omega))) := M.sumK_L (by omega)
      have hcb : ((L[k]'(by omega)).toNat) ≤ 255 := by have := (L[k]'(by omega)).toNat_lt; omega
      obtain ⟨c, hce⟩ : ∃ c : Nat, c = (L[k]'(by omega)).toNat := ⟨_, rfl⟩
      have HC : Hid (c = (L[k]'(by omega)).toNat) := hce
      rw [← hce] at hc hcb
      clear hce
      rcases (show (148 ≤ k ∧ k < 156) ∨ k < 148 ∨ 156 ≤ k from by omega) with ⟨ha, hb⟩ | ha | ha
      · have HV2 : Hid (n + 32 = M.sumK ⟨L.toArray⟩ (k + 1)) := by show _ = _; rw [hS.out, ← HV.out]; unfold M.sumC; rw [if_pos ⟨ha, hb⟩]
        have hn2 : n + 32 ≤ 255 * (k + 1) := by rw [HV2.out]; exact hle
        have e2 : decide ((k : Int) < 156) = true := decide_eq_true (by omega)
        clear hle
        go_wp2
        go_quiet (fail)
        go_wp2
        go_roundw
        case rel => exact ⟨k + 1, n + 32, _, by omega, by go_num, by go_num, hn2, HV2, rfl⟩
        case measure => simp [intOf]; omega
      · have HV2 : Hid (n + c = M.sumK ⟨L.toArray⟩ (k + 1)) := by show _ = _; rw [hS.out, ← HV.out, HC.out]; unfold M.sumC; rw [if_neg (by omega)]
        have hn2 : n + c ≤ 255 * (k + 1) := by rw [HV2.out]; exact hle
        clear hle
        go_wp2
        go_quiet (fail)
        go_wp2
        go_roundw
        case rel => exact ⟨k + 1, n + c, _, by omega, by go_num, by go_num, hn2, HV2, rfl⟩
        case measure => simp [intOf]; omega
      · have HV2 : Hid (n + c = M.sumK ⟨L.toArray⟩ (k + 1)) := by show _ = _; rw [hS.out, ← HV.out, HC.out]; unfold M.sumC; rw [if_neg (by omega)]
        have hn2 : n + c ≤ 255 * (k + 1) := by rw [HV2.out]; exact hle
        have e2 : decide ((k : Int) < 156) = false := decide_eq_false (by omega)
        clear hle
        go_wp2
        go_quiet (fail)
        go_wp2
        go_roundw
        case rel => exact ⟨k + 1, n + c, _, by omega, by go_num, by go_num, hn2, HV2, rfl⟩
        case measure => simp [intOf]; omega
    · have hE : Hid (M.sumH ⟨L.toArray⟩ = n) := by
        show M.sumK _ _ = _
        rw [HV.out, show k = 512 by omega, ← hL, Lib.size_eq]
      go_wp2
      go_ret
      exact ⟨by rw [hE.out]; rfl, d, rfl⟩
end Go.Proofs.YtbmbcfnlpbbapahDoor
