/-
  What the laws' lwAt does: a number out of some bytes.
-/
import Derived.Test.YtappficbjjkmiaaPart1
namespace Go.Proofs.Ytappficbjjkmiaa
open Go.RowKit

/-- A number from 0 to below most (0, if most is not above 1). -/
def M.DrawIn (v most : Int) : Prop := 0 ≤ v ∧ (1 < most → v < most) ∧ (most ≤ 1 → v = 0)

set_option maxRecDepth 100000 in
set_option maxHeartbeats 800000 in
theorem lwAt_any (w : World) (a : Option Addr) (len cap : Nat) (t : Nat) (most : Int) (hR : M.IsRow w a len cap) (ht : t ≤ 1000) (hm9 : most ≤ 9223372036854775807) :
    Calls Try.prog 23 #[.slice a len cap, .int .i64 t, .int .i64 most] w fun e w' => ∃ v : Int, e = .returned (.int .i64 v) ∧ M.DrawIn v most ∧ w = w' := by
  have hl := hR.len_le
  by_cases hm : most ≤ 1
  · have d1 : decide (most ≤ 1) = true := decide_eq_true hm
    clear hR
    go_enter Try.func23, Try.ntmps23
    go_wp2
    go_ret
    exact ⟨0, rfl, ⟨by omega, fun h => by omega, fun _ => rfl⟩, rfl⟩
  have d1 : decide (most ≤ 1) = false := decide_eq_false hm
  by_cases h0 : len = 0
  · have d2 : ((len : Int) == 0) = true := beq_iff_eq.2 (by omega)
    clear hR h0
    go_enter Try.func23, Try.ntmps23
    go_wp2
    go_ret
    exact ⟨0, rfl, ⟨by omega, fun h => by omega, fun _ => rfl⟩, rfl⟩
  · have d2 : ((len : Int) == 0) = false := beq_eq_false_iff_ne.2 (by omega)
    have hlp : 0 < len := by omega
    obtain ⟨b, off, rfl, hz⟩ := hR.2.2 hlp
    have hml : t % len < len := Nat.mod_lt _ hlp
    obtain ⟨z, hz0, hz9, cz⟩ := hz (t % len) hml
    have hmi : ((t : Int) % (len : Int)) = ((t % len : Nat) : Int) := by simp
    clear hR hz h0
    obtain ⟨k, hk⟩ : ∃ k, k = t % len := ⟨_, rfl⟩
    rw [← hk] at hml cz hmi
    clear hk
    go_enter Try.func23, Try.ntmps23
    go_wp2
    go_ret
    exact ⟨_, rfl, ⟨Int.emod_nonneg _ (by omega), fun _ => Int.emod_lt_of_pos _ (by omega), fun h => by omega⟩, rfl⟩
end Go.Proofs.Ytappficbjjkmiaa
