/-
  What codeOf, placeFault and signedOf of the program do.
-/
import Derived.Test.YtdablmomfkpnnaaDoorAsWalks
namespace Go.Proofs.YtdablmomfkpnnaaDoor
open Go.RowKit

/-- The variable errors.errorType, as the program's text lays it. -/
def M.errT (w : World) : Prop := w.cell? ⟨0, 0, none⟩ = some (.iface 122 (.agg #[.pointer (some ⟨5, 52, none⟩)]))
theorem M.errT_lt {w : World} (h : M.errT w) : 0 < w.heap.size := by
  rcases Nat.eq_zero_or_pos w.heap.size with h0 | h'
  · simp [M.errT, World.cell?, h0] at h
  · exact h'
theorem M.errT_below {w w' : World} (h : M.errT w) (hb : Below w.heap.size w w') : M.errT w' := by
  unfold M.errT
  rw [hb.cell (p := ⟨0, 0, none⟩) (M.errT_lt h)]
  exact h

set_option maxRecDepth 100000 in
set_option maxHeartbeats 800000 in
theorem codeOf_nil (w : World) :
    Calls Tryd.prog 36 #[.nilIface] w fun e w' => e = .returned (.int .i64 0) ∧ Below w.heap.size w w' := by
  go_enter Tryd.func36, Tryd.ntmps36
  go_wp2_with (go_at_call 61; refine (as_nil _ _).mono ?_; rintro e w' ⟨rfl, rfl⟩)
  go_ret
  exact ⟨rfl, (Below.refl _ _).alloc (Nat.le_refl _) _⟩

set_option maxRecDepth 100000 in
set_option maxHeartbeats 800000 in
theorem codeOf_hit (c : Int) (w : World) (hg : M.errT w) :
    Calls Tryd.prog 36 #[.iface 80 (.agg #[.int .i64 c])] w fun e w' => e = .returned (.int .i64 c) ∧ Below w.heap.size w w' := by
  have hlt := M.errT_lt hg
  have hgA : (w.alloc (.cells #[.int .i64 0] 80)).cell? ⟨0, 0, none⟩ = some (.iface 122 (.agg #[.pointer (some ⟨5, 52, none⟩)])) := by
    rw [World.cell?_alloc_lt _ _ ⟨0, 0, none⟩ hlt]; exact hg
  have htA : (w.alloc (.cells #[.int .i64 0] 80)).cell? ⟨w.heap.size, 0, none⟩ = some (.int .i64 0) := by simp
  have hfA : (w.alloc (.cells #[.int .i64 0] 80)).frozen? ⟨w.heap.size, 0, none⟩ = false := by simp
  clear hg
  go_enter Tryd.func36, Tryd.ntmps36
  go_wp2_with (go_at_call 61; refine (as_hit c _ (.int .i64 0) _ hgA htA hfA).mono ?_; rintro e w' ⟨rfl, rfl⟩)
  go_ret
  exact ⟨rfl, (((((Below.refl _ _).alloc (Nat.le_refl _) _).alloc (by simp) _).alloc (by simp; omega) _).alloc (by simp; omega) _).alloc (by simp; omega) _⟩

set_option maxHeartbeats 800000 in
theorem placeFault_ok (s : ByteArray) (n : Int) (w : World) (hs : ¬ 20000 < s.size) (h0 : 0 ≤ n) (h2 : n ≤ 9223372036854775807) :
    Calls Tryd.prog 59 #[.string s, .int .i64 n] w fun e w' => e = .returned .nilIface ∧ w = w' := by
  go_enter Tryd.func59, Tryd.ntmps59
  go_wp2
  go_ret
  exact ⟨rfl, rfl⟩
theorem placeFault_size (s : ByteArray) (n : Int) (w : World) (hs' : s.size ≤ maxLen) (hs : 20000 < s.size) :
    Calls Tryd.prog 59 #[.string s, .int .i64 n] w fun e w' => e = .returned (.iface 80 (.agg #[.int .i64 2])) ∧ w = w' := by
  unfold maxLen at hs'
  go_enter Tryd.func59, Tryd.ntmps59
  go_wp2
  go_ret
  exact ⟨rfl, rfl⟩
theorem placeFault_form (s : ByteArray) (n : Int) (w : World) (hs : ¬ 20000 < s.size) (h0 : n < 0) (_h1 : -9223372036854775808 ≤ n) :
    Calls Tryd.prog 59 #[.string s, .int .i64 n] w fun e w' => e = .returned (.iface 80 (.agg #[.int .i64 1])) ∧ w = w' := by
  go_enter Tryd.func59, Tryd.ntmps59
  go_wp2
  go_ret
  exact ⟨rfl, rfl⟩

/-- The number that u stands for. -/
def M.unZ (u : Nat) : Int := if u % 2 = 1 then -((u / 2 : Nat) : Int) - 1 else ((u / 2 : Nat) : Int)
theorem M.unZ_odd {u : Nat} (h : u % 2 = 1) : M.unZ u = -((u : Int) / 2) - 1 := by unfold M.unZ; rw [if_pos h]; omega
theorem M.unZ_even {u : Nat} (h : ¬ u % 2 = 1) : M.unZ u = (u : Int) / 2 := by unfold M.unZ; rw [if_neg h]; omega
theorem M.unZ_range {u : Nat} (h : u < 18446744073709551616) : -9223372036854775808 ≤ M.unZ u ∧ M.unZ u ≤ 9223372036854775807 := by unfold M.unZ; split <;> omega

set_option maxHeartbeats 800000 in
theorem signedOf_any (u : Nat) (w : World) (hu : (u : Int) ≤ 18446744073709551615) :
    Calls Tryd.prog 60 #[.int .u64 u] w fun e w' => e = .returned (.int .i64 (M.unZ u)) ∧ w = w' := by
  by_cases h : u % 2 = 1
  · have hE : Hid (M.unZ u = -((u : Int) / 2) - 1) := M.unZ_odd h
    have d : ((u : Int) % 2 == 1) = true := beq_iff_eq.2 (by omega)
    clear h
    go_enter Tryd.func60, Tryd.ntmps60
    go_wp2
    go_ret
    exact ⟨by rw [hE.out]; rfl, rfl⟩
  · have hE : Hid (M.unZ u = (u : Int) / 2) := M.unZ_even h
    have d : ((u : Int) % 2 == 1) = false := beq_eq_false_iff_ne.2 (by omega)
    clear h
    go_enter Tryd.func60, Tryd.ntmps60
    go_wp2
    go_ret
    exact ⟨by rw [hE.out]; rfl, rfl⟩

/-- What lies below reads as before. -/
theorem M.bcell {W w1 : World} (hb : Below W.heap.size W w1) : (∀ b o, b < W.heap.size → w1.cell? ⟨b, o, none⟩ = W.cell? ⟨b, o, none⟩) ∧ (∀ b o, b < W.heap.size → w1.frozen? ⟨b, o, none⟩ = W.frozen? ⟨b, o, none⟩) :=
  ⟨fun b o h => hb.cell (p := ⟨b, o, none⟩) h, fun b o h => hb.frozen (p := ⟨b, o, none⟩) h⟩
theorem M.errT_alloc {w : World} (h : M.errT w) (o : Obj) : M.errT (w.alloc o) := M.errT_below h ((Below.refl _ _).alloc (Nat.le_refl _) o)
end Go.Proofs.YtdablmomfkpnnaaDoor
