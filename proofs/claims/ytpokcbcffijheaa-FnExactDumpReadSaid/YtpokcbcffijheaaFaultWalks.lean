/-
  What placeFault and signedOf of the program do.
-/
import Derived.Test.YtpokcbcffijheaaRows
import Derived.WalkKit
import Derived.WalkSpells
import Derived.WalkLawsBesides
namespace Go.Proofs.Ytpokcbcffijheaa
open Go.RowKit

set_option maxHeartbeats 800000 in
theorem placeFault_ok (s : ByteArray) (n : Int) (w : World) (hs : ¬ 20000 < s.size) (h0 : 0 ≤ n) (h2 : n ≤ 9223372036854775807) :
    Calls Try.prog 86 #[.string s, .int .i64 n] w fun e w' => e = .returned .nilIface ∧ w = w' := by
  go_enter Try.func86, Try.ntmps86
  go_wp2
  go_ret
  exact ⟨rfl, rfl⟩
theorem placeFault_size (s : ByteArray) (n : Int) (w : World) (hs' : s.size ≤ maxLen) (hs : 20000 < s.size) :
    Calls Try.prog 86 #[.string s, .int .i64 n] w fun e w' => e = .returned (.iface 121 (.agg #[.int .i64 2])) ∧ w = w' := by
  unfold maxLen at hs'
  go_enter Try.func86, Try.ntmps86
  go_wp2
  go_ret
  exact ⟨rfl, rfl⟩
theorem placeFault_form (s : ByteArray) (n : Int) (w : World) (hs : ¬ 20000 < s.size) (h0 : n < 0) (_h1 : -9223372036854775808 ≤ n) :
    Calls Try.prog 86 #[.string s, .int .i64 n] w fun e w' => e = .returned (.iface 121 (.agg #[.int .i64 1])) ∧ w = w' := by
  go_enter Try.func86, Try.ntmps86
  go_wp2
  go_ret
  exact ⟨rfl, rfl⟩

/-- The number that u stands for. -/
def M.unZ (u : Nat) : Int := if u % 2 = 1 then -((u / 2 : Nat) : Int) - 1 else ((u / 2 : Nat) : Int)
theorem M.unZ_odd {u : Nat} (h : u % 2 = 1) : M.unZ u = -((u : Int) / 2) - 1 := by unfold M.unZ; rw [if_pos h]; omega
theorem M.unZ_even {u : Nat} (h : ¬ u % 2 = 1) : M.unZ u = (u : Int) / 2 := by unfold M.unZ; rw [if_neg h]; omega
theorem M.unZ_range {u : Nat} (h : u < 18446744073709551616) : -9223372036854775808 ≤ M.unZ u ∧ M.unZ u ≤ 9223372036854775807 := by unfold M.unZ; split <;> omega

set_option maxHeartbeats 800000 in
theorem signedOf_any (u : Nat) (w : World) (hu : (u : Int) ≤ 18446744073709551615) :
    Calls Try.prog 87 #[.int .u64 u] w fun e w' => e = .returned (.int .i64 (M.unZ u)) ∧ w = w' := by
  by_cases h : u % 2 = 1
  · have hE : Hid (M.unZ u = -((u : Int) / 2) - 1) := M.unZ_odd h
    have d : ((u : Int) % 2 == 1) = true := beq_iff_eq.2 (by omega)
    clear h
    go_enter Try.func87, Try.ntmps87
    go_wp2
    go_ret
    exact ⟨by rw [hE.out]; rfl, rfl⟩
  · have hE : Hid (M.unZ u = (u : Int) / 2) := M.unZ_even h
    have d : ((u : Int) % 2 == 1) = false := beq_eq_false_iff_ne.2 (by omega)
    clear h
    go_enter Try.func87, Try.ntmps87
    go_wp2
    go_ret
    exact ⟨by rw [hE.out]; rfl, rfl⟩
end Go.Proofs.Ytpokcbcffijheaa
