/-
  What eqMark and eqMarkS of the laws do at like marks.
-/
import Derived.Test.YtcoppfmigpdglaaRows
import Derived.Test.YtcoppfmigpdglaaTowMath
import Derived.WalkKit
import Derived.WalkSpells
import Derived.WalkLawsBesides
import Derived.Deep.RegionWith
namespace Go.Proofs.Ytcoppfmigpdglaa
open Go.RowKit

theorem Try.infoMk : (Try.prog.info? 80).map (fun i => (i.zero, i.size, i.bytes)) = some (some (.agg #[.int .i64 0, .int .i64 0, .int .i64 0]), 3, 24) := by kernel_rfl

def M.meq (a b : M.MkD) : Bool := a.id == b.id && a.level == b.level && a.base == b.base
theorem M.meq_iff {a b : M.MkD} : M.meq a b = true ↔ a = b := by
  unfold M.meq
  obtain ⟨x, l, b1⟩ := a
  obtain ⟨x', l', b'⟩ := b
  simp [and_assoc]
set_option maxRecDepth 100000 in
set_option maxHeartbeats 800000 in
theorem eqMark_any (f g : M.MkD) (w : World) :
    Calls Try.prog 60 #[M.mval f, M.mval g] w fun e w' => e = .returned (.bool (M.meq f g)) ∧ Below w.heap.size w w' := by
  obtain ⟨m, t, x⟩ := f
  obtain ⟨m', t', x'⟩ := g
  have fin : Below w.heap.size w ((w.alloc (.cells #[.int .i64 m, .int .i64 t, .int .i64 x] 80)).alloc (.cells #[.int .i64 m', .int .i64 t', .int .i64 x'] 80)) :=
    ((Below.refl _ _).alloc (Nat.le_refl _) _).alloc (by simp) _
  have FIN : Hid _ := fin
  clear fin
  show Calls Try.prog 60 #[.agg #[.int .i64 m, .int .i64 t, .int .i64 x], .agg #[.int .i64 m', .int .i64 t', .int .i64 x']] w _
  unfold M.meq
  simp only
  cases h3 : (m == m')
  · go_enter Try.func60, Try.ntmps60
    go_wp2
    go_ret
    exact ⟨rfl, FIN.out⟩
  cases h4 : (t == t')
  · go_enter Try.func60, Try.ntmps60
    go_wp2
    go_ret
    exact ⟨rfl, FIN.out⟩
  cases h5 : (x == x')
  · go_enter Try.func60, Try.ntmps60
    go_wp2
    go_ret
    exact ⟨rfl, FIN.out⟩
  · go_enter Try.func60, Try.ntmps60
    go_wp2
    go_ret
    exact ⟨rfl, FIN.out⟩

set_option maxRecDepth 100000 in
set_option maxHeartbeats 1600000 in
theorem eqMarkS_same (w : World) (a a' : Option Addr) (len cap len' cap' : Nat) (ms : List M.MkD) (h : M.Mks w a len cap ms) (h' : M.Mks w a' len' cap' ms) :
    Calls Try.prog 27 #[.slice a len cap, .slice a' len' cap'] w fun e w' => e = .returned (.bool true) ∧ Below w.heap.size w w' := by
  have hlm : len ≤ 9223372036854775807 := by obtain ⟨_, h1, h2, _⟩ := h; unfold maxLen at h2; omega
  have HF : Hid (M.Mks w a len cap ms) := h
  have HG : Hid (M.Mks w a' len' cap' ms) := h'
  obtain rfl : len = len' := by rw [h.1, h'.1]
  clear h h'
  have d0 : ((len : Int) != (len : Int)) = false := by simp
  go_enter Try.func27, Try.ntmps27
  go_wp2
  go_loopw [5] (fun i wr => ∃ k : Nat, i = .int .i64 k ∧ k ≤ len ∧ Hid (Below w.heap.size w wr)) (fun i _ => len - (intOf i).toNat)
  case atStart => exact ⟨0, rfl, Nat.zero_le _, Below.refl _ _⟩
  case round =>
    obtain ⟨k, rfl, hk, HBr⟩ := hrel
    by_cases hlt : k < len
    · obtain ⟨hfl, _, _, hfa⟩ := HF.out.below HBr.out
      obtain ⟨b, off, rfl, hat⟩ := hfa (by omega)
      obtain ⟨c0, c1, c2⟩ := hat k (by omega)
      obtain ⟨hfl', _, _, hfa'⟩ := HG.out.below HBr.out
      obtain ⟨b', off', rfl, hat'⟩ := hfa' (by omega)
      obtain ⟨e0, e1, e2⟩ := hat' k (by omega)
      generalize ms[k]'(by omega) = f at c0 c1 c2 e0 e1 e2
      clear hat hfa hfl hat' hfa' hfl'
      have hq := eqMark_any f f
      rw [M.meq_iff.2 rfl] at hq
      unfold M.mval at hq
      have HQ : Hid _ := hq
      clear hq
      go_wp2_with fail
      go_region_with (go_at_call 60; refine (HQ.out _).mono ?_; rintro e w2 ⟨rfl, hb2⟩)
      all_goals
        go_wp2
        go_roundw
        case rel => exact ⟨k + 1, by go_num, by omega, HBr.out.trans ((show Below wr.heap.size wr w2 from ⟨hb2.os, hb2.tape, hb2.output, hb2.size, hb2.block⟩).mono HBr.out.size)⟩
        case measure => simp [intOf]; omega
    · go_wp2
      go_ret
      exact ⟨rfl, HBr.out⟩
end Go.Proofs.Ytcoppfmigpdglaa
