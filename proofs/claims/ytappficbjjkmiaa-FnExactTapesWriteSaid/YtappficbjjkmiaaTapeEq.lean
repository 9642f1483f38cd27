/-
  What eqTape and eqTapeS of the laws do at like tapes.
-/
import Derived.Test.YtappficbjjkmiaaStrWalks
import Derived.Test.YtappficbjjkmiaaOwnTape
import Derived.Deep.RegionWith
namespace Go.Proofs.Ytappficbjjkmiaa
open Go.RowKit

set_option maxRecDepth 100000 in
set_option maxHeartbeats 1600000 in
theorem eqTape_same (w : World) (a b : Option Addr) (n c m d : Nat) (ss : List ByteArray) (x y z : Int) (h : M.Strs w a n c ss) (k : M.Strs w b m d ss) :
    Calls Try.prog 68 #[.agg #[.int .i64 x, .slice a n c, .int .i64 y, .int .i64 z], .agg #[.int .i64 x, .slice b m d, .int .i64 y, .int .i64 z]] w fun e w' => e = .returned (.bool true) ∧ Below w.heap.size w w' := by
  have HB : Hid (∀ o1 o2, Below w.heap.size w ((w.alloc o1).alloc o2)) := fun o1 o2 => ((Below.refl _ _).alloc (Nat.le_refl _) _).alloc (by simp) _
  have CS : Hid (∀ o1 o2, Calls Try.prog 84 #[.slice a n c, .slice b m d] ((w.alloc o1).alloc o2) fun e w' => e = .returned (.bool true) ∧ Below ((w.alloc o1).alloc o2).heap.size ((w.alloc o1).alloc o2) w') := fun o1 o2 =>
    (eqStringS_any _ a b n c m d ss ss (h.below (HB.out o1 o2)) (k.below (HB.out o1 o2))).mono (by rintro e w' ⟨u, rfl, hu, hb⟩; exact ⟨by rw [hu.2 rfl], hb⟩)
  clear h k
  go_enter Try.func68, Try.ntmps68
  go_wp2_with fail
  refine (CS.out _ _).mono ?_
  rintro e w1 ⟨rfl, hb1⟩
  obtain ⟨t0, t1⟩ := M.thr2 w (.cells #[.int .i64 x, .slice a n c, .int .i64 y, .int .i64 z] 36) (.cells #[.int .i64 x, .slice b m d, .int .i64 y, .int .i64 z] 36)
  have u0 := (hb1.block w.heap.size (by simp; omega)).trans t0
  have u1 := (hb1.block (w.heap.size + 1) (by simp)).trans t1
  have x2 := M.bk_cell u0 2 (.int .i64 y) rfl
  have x3 := M.bk_cell u0 3 (.int .i64 z) rfl
  have y2 := M.bk_cell u1 2 (.int .i64 y) rfl
  have y3 := M.bk_cell u1 3 (.int .i64 z) rfl
  have B1 : Hid (Below w.heap.size w w1) := (HB.out _ _).trans (hb1.mono (HB.out _ _).size)
  clear hb1 t0 t1 u0 u1
  go_wp2
  go_ret
  exact ⟨rfl, B1.out⟩

set_option maxRecDepth 100000 in
set_option maxHeartbeats 1600000 in
theorem eqTapeS_same (w : World) (a a' : Option Addr) (len cap len' cap' : Nat) (ts : List M.TapeD) (h : M.Tps w a len cap ts) (h' : M.Tps w a' len' cap' ts) :
    Calls Try.prog 27 #[.slice a len cap, .slice a' len' cap'] w fun e w' => e = .returned (.bool true) ∧ Below w.heap.size w w' := by
  have hlm : len ≤ 9223372036854775807 := h.max
  have HF := M.hl h
  have HG := M.hl h'
  obtain rfl : len = len' := by rw [h.1, h'.1]
  clear h h'
  have d0 : ((len : Int) != (len : Int)) = false := by simp
  go_enter Try.func27, Try.ntmps27
  go_wp2
  go_loopw [5] (fun i wr => ∃ k : Nat, i = .int .i64 k ∧ k ≤ len ∧ Hid (Below w.heap.size w wr)) (fun i _ => len - (intOf i).toNat)
  case atStart => exact ⟨0, rfl, Nat.zero_le _, Below.refl _ _⟩
  case round =>
    obtain ⟨k, rfl, hk, HBr⟩ := hrel
    by_cases hlt : k < len
    · obtain ⟨b, off, t, rfl, hfk, hat⟩ := (HF.out.below HBr.out).at hlt
      obtain ⟨b', off', t', rfl, hfk', hat'⟩ := (HG.out.below HBr.out).at hlt
      obtain rfl := Option.some.inj (hfk.symm.trans hfk')
      obtain ⟨x, ss, y, z⟩ := t
      obtain ⟨c0, ⟨a1, n1, k1, c1, hs, -⟩, c2, c3⟩ := hat
      obtain ⟨e0, ⟨a2, n2, k2, e1, hs', -⟩, e2, e3⟩ := hat'
      simp only at c0 c1 c2 c3 hs e0 e1 e2 e3 hs'
      have BD : Below wr.heap.size wr wr.drew := (Below.refl _ _).drew
      have HQ := M.hl (eqTape_same wr.drew a1 a2 n1 k1 n2 k2 ss x y z (hs.below BD) (hs'.below BD))
      clear hs hs' hfk hfk' BD
      go_wp2_with fail
      go_region_with (go_at_call 68; refine HQ.out.mono ?_; rintro e w2 ⟨rfl, hb2⟩)
      all_goals
        go_wp2
        go_roundw
        case rel => exact ⟨k + 1, by go_num, by omega, M.hl (HBr.out.trans (((Below.refl _ _).drew.trans (hb2.mono ((Below.refl wr.heap.size wr).drew.size))).mono HBr.out.size))⟩
        case measure => simp [intOf]; omega
    · go_wp2
      go_ret
      exact ⟨rfl, HBr.out⟩
end Go.Proofs.Ytappficbjjkmiaa
