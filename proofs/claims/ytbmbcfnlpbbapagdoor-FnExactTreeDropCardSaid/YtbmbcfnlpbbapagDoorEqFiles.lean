/-
  What eqFile and eqFileS of the laws do.
-/
import Derived.Test.YtbmbcfnlpbbapagDoorRows
import Derived.Test.YtbmbcfnlpbbapagDoorFileMath
import Derived.Deep.RegionWith
namespace Go.Proofs.YtbmbcfnlpbbapagDoor
open Go.RowKit

set_option maxRecDepth 100000 in
set_option maxHeartbeats 800000 in
theorem eqFile_any (f g : M.FileD) (w : World) :
    Calls Tryd.prog 16 #[M.fval f, M.fval g] w fun e w' => e = .returned (.bool (M.feq f g)) ∧ Below w.heap.size w w' := by
  obtain ⟨p, d, m, t, x⟩ := f
  obtain ⟨p', d', m', t', x'⟩ := g
  have fin : Below w.heap.size w ((w.alloc (.cells #[.string p, .bool d, .int .i64 m, .int .i64 t, .string x] 31)).alloc (.cells #[.string p', .bool d', .int .i64 m', .int .i64 t', .string x'] 31)) :=
    ((Below.refl _ _).alloc (Nat.le_refl _) _).alloc (by simp) _
  have FIN : Hid _ := fin
  clear fin
  show Calls Tryd.prog 16 #[.agg #[.string p, .bool d, .int .i64 m, .int .i64 t, .string x], .agg #[.string p', .bool d', .int .i64 m', .int .i64 t', .string x']] w _
  unfold M.feq
  simp only
  cases h1 : (p.toList == p'.toList)
  · go_enter Tryd.func16, Tryd.ntmps16
    go_wp2
    go_ret
    exact ⟨rfl, FIN.out⟩
  cases h2 : (d == d')
  · go_enter Tryd.func16, Tryd.ntmps16
    go_wp2
    go_ret
    exact ⟨rfl, FIN.out⟩
  cases h3 : (m == m')
  · go_enter Tryd.func16, Tryd.ntmps16
    go_wp2
    go_ret
    exact ⟨rfl, FIN.out⟩
  cases h4 : (t == t')
  · go_enter Tryd.func16, Tryd.ntmps16
    go_wp2
    go_ret
    exact ⟨rfl, FIN.out⟩
  cases h5 : (x.toList == x'.toList)
  · go_enter Tryd.func16, Tryd.ntmps16
    go_wp2
    go_ret
    exact ⟨rfl, FIN.out⟩
  · go_enter Tryd.func16, Tryd.ntmps16
    go_wp2
    go_ret
    exact ⟨rfl, FIN.out⟩

set_option maxRecDepth 100000 in
set_option maxHeartbeats 1600000 in
theorem eqFileS_any (w : World) (a a' : Option Addr) (len cap len' cap' : Nat) (fs gs : List M.FileD) (h : M.Files w a len cap fs) (h' : M.Files w a' len' cap' gs) :
    Calls Tryd.prog 13 #[.slice a len cap, .slice a' len' cap'] w fun e w' => ∃ v : Bool, e = .returned (.bool v) ∧ (v = true ↔ fs = gs) ∧ Below w.heap.size w w' := by
  have hlm : len ≤ 9223372036854775807 := by obtain ⟨_, h1, h2, _⟩ := h; unfold maxLen at h2; omega
  have hlm' : len' ≤ 9223372036854775807 := by obtain ⟨_, h1, h2, _⟩ := h'; unfold maxLen at h2; omega
  have HF : Hid (M.Files w a len cap fs) := h
  have HG : Hid (M.Files w a' len' cap' gs) := h'
  clear h h'
  by_cases hne : len = len'
  · subst hne
    have d0 : ((len : Int) != (len : Int)) = false := by simp
    go_enter Tryd.func13, Tryd.ntmps13
    go_wp2
    go_loopw [5] (fun i wr => ∃ k : Nat, i = .int .i64 k ∧ k ≤ len ∧ Hid (fs.take k = gs.take k) ∧ Hid (Below w.heap.size w wr)) (fun i _ => len - (intOf i).toNat)
    case atStart => exact ⟨0, rfl, Nat.zero_le _, rfl, Below.refl _ _⟩
    case round =>
      obtain ⟨k, rfl, hk, HT, HBr⟩ := hrel
      by_cases hlt : k < len
      · obtain ⟨hfl, _, _, hfa⟩ := HF.out.below HBr.out
        obtain ⟨b, off, rfl, hat⟩ := hfa (by omega)
        obtain ⟨c0, c1, c2, c3, c4⟩ := hat k (by omega)
        have hfk := List.getElem?_eq_getElem (l := fs) (i := k) (by omega)
        generalize fs[k]'(by omega) = f at c0 c1 c2 c3 c4 hfk
        have HFK : Hid (fs[k]? = some f) := hfk
        clear hfk hat hfa hfl
        obtain ⟨hfl, _, _, hfa⟩ := HG.out.below HBr.out
        obtain ⟨b', off', rfl, hat⟩ := hfa (by omega)
        obtain ⟨e0, e1, e2, e3, e4⟩ := hat k (by omega)
        have hfk := List.getElem?_eq_getElem (l := gs) (i := k) (by omega)
        generalize gs[k]'(by omega) = g at e0 e1 e2 e3 e4 hfk
        have HGK : Hid (gs[k]? = some g) := hfk
        clear hfk hat hfa hfl
        have hq := eqFile_any f g
        unfold M.fval at hq
        cases hfg : M.feq f g
        · rw [hfg] at hq
          have HQ : Hid _ := hq
          have HNE : Hid (fs ≠ gs) := fun e => by
            have h1 := HFK.out
            rw [e, HGK.out] at h1
            rw [Option.some.inj h1, M.feq_iff.2 rfl] at hfg
            simp at hfg
          clear hq hfg
          go_wp2_with fail
          go_region_with (go_at_call 16; refine (HQ.out _).mono ?_; rintro e w2 ⟨rfl, hb2⟩)
          all_goals
            go_wp2
            go_ret
            exact ⟨false, rfl, ⟨fun h => by simp at h, fun h => absurd h HNE.out⟩, HBr.out.trans ((show Below wr.heap.size wr w2 from ⟨hb2.os, hb2.tape, hb2.output, hb2.size, hb2.block⟩).mono HBr.out.size)⟩
        · rw [hfg] at hq
          have HQ : Hid _ := hq
          have HT2 : Hid (fs.take (k + 1) = gs.take (k + 1)) := by
            show _ = _
            rw [M.take_snoc_get HFK.out, M.take_snoc_get HGK.out, HT.out, M.feq_iff.1 hfg]
          clear hq hfg
          go_wp2_with fail
          go_region_with (go_at_call 16; refine (HQ.out _).mono ?_; rintro e w2 ⟨rfl, hb2⟩)
          all_goals
            go_wp2
            go_roundw
            case rel => exact ⟨k + 1, by go_num, by omega, HT2, HBr.out.trans ((show Below wr.heap.size wr w2 from ⟨hb2.os, hb2.tape, hb2.output, hb2.size, hb2.block⟩).mono HBr.out.size)⟩
            case measure => simp [intOf]; omega
      · have e1 : fs.take k = fs := List.take_of_length_le (by have := HF.out.1; omega)
        have e2 : gs.take k = gs := List.take_of_length_le (by have := HG.out.1; omega)
        have HE : Hid (fs = gs) := by have := HT.out; rw [e1, e2] at this; exact this
        clear e1 e2
        go_wp2
        go_ret
        exact ⟨true, rfl, ⟨fun _ => HE.out, fun _ => rfl⟩, HBr.out⟩
  · have d0 : ((len : Int) != (len' : Int)) = true := by rw [bne_iff_ne]; omega
    go_enter Tryd.func13, Tryd.ntmps13
    go_wp2
    go_ret
    exact ⟨false, rfl, ⟨fun h => by simp at h, fun h => absurd (by rw [HF.out.1, HG.out.1, h]) hne⟩, Below.refl _ _⟩
end Go.Proofs.YtbmbcfnlpbbapagDoor
