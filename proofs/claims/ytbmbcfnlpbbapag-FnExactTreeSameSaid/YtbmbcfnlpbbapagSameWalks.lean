/-
  What TreeSame of the program and of the specification do: both tell whether two lists of at most 400 files are the same.
-/
import Derived.Test.YtbmbcfnlpbbapagRows
import Derived.Test.YtbmbcfnlpbbapagFileWalks
import Derived.WalkKit
import Derived.WalkSpells
import Derived.WalkLawsBesides
namespace Go.Proofs.Ytbmbcfnlpbbapag
open Go.RowKit

set_option maxRecDepth 100000 in
set_option maxHeartbeats 1600000 in
theorem equalFiles_any (w : World) (a a' : Option Addr) (len cap len' cap' : Nat) (fs gs : List M.FileD) (h : M.Files w a len cap fs) (h' : M.Files w a' len' cap' gs) :
    Calls Try.prog 11 #[.slice a len cap, .slice a' len' cap'] w fun e w' => ∃ v : Bool, e = .returned (.bool v) ∧ (v = true ↔ fs = gs) ∧ Below w.heap.size w w' := by
  have hlm : len ≤ 9223372036854775807 := by obtain ⟨_, h1, h2, _⟩ := h; unfold maxLen at h2; omega
  have hlm' : len' ≤ 9223372036854775807 := by obtain ⟨_, h1, h2, _⟩ := h'; unfold maxLen at h2; omega
  have HF : Hid (M.Files w a len cap fs) := h
  have HG : Hid (M.Files w a' len' cap' gs) := h'
  clear h h'
  by_cases hne : len = len'
  · subst hne
    have d0 : ((len : Int) != (len : Int)) = false := by simp
    go_enter Try.func11, Try.ntmps11
    go_wp2
    go_loopw [13] (fun i wr => ∃ k : Nat, i = .int .i64 k ∧ k ≤ len ∧ Hid (fs.take k = gs.take k) ∧ Hid (Below w.heap.size w wr)) (fun i _ => len - (intOf i).toNat)
    case atStart => exact ⟨0, rfl, Nat.zero_le _, rfl, Below.refl _ _⟩
    case round =>
      obtain ⟨k, rfl, hk, HT, HBr⟩ := hrel
      by_cases hlt : k < len
      · obtain ⟨hfl, _, _, hfa⟩ := HF.out.below HBr.out
        obtain ⟨b, off, rfl, hat⟩ := hfa (by omega)
        obtain ⟨c0, c1, c2, c3, c4⟩ := hat k (by omega)
        have hfk := List.getElem?_eq_getElem (l := fs) (i := k) (by omega)
        generalize fs[k]'(by omega) = f at c0 c1 c2 c3 c4 hfk
        have HFK : Hid (fs[k]? = some f) := hfk
        clear hfk hat hfa hfl
        obtain ⟨hfl, _, _, hfa⟩ := HG.out.below HBr.out
        obtain ⟨b', off', rfl, hat⟩ := hfa (by omega)
        obtain ⟨e0, e1, e2, e3, e4⟩ := hat k (by omega)
        have hfk := List.getElem?_eq_getElem (l := gs) (i := k) (by omega)
        generalize gs[k]'(by omega) = g at e0 e1 e2 e3 e4 hfk
        have HGK : Hid (gs[k]? = some g) := hfk
        clear hfk hat hfa hfl
        by_cases hfg : f = g
        · subst hfg
          have HT2 : Hid (fs.take (k + 1) = gs.take (k + 1)) := by
            show _ = _
            rw [M.take_snoc_get HFK.out, M.take_snoc_get HGK.out, HT.out]
          go_wp2
          go_region
          all_goals
            go_wp2
            go_roundw
            case rel => exact ⟨k + 1, by go_num, by omega, HT2, HBr.out.drew⟩
            case measure => simp [intOf]; omega
        · have HNE : Hid (fs ≠ gs) := fun e => by
            have h1 := HFK.out
            rw [e, HGK.out] at h1
            exact hfg (Option.some.inj h1).symm
          have hq : ¬ (f.path.toList = g.path.toList ∧ f.dir = g.dir ∧ f.mode = g.mode ∧ f.time = g.time ∧ f.data.toList = g.data.toList) := fun ⟨q1, q2, q3, q4, q5⟩ => hfg (M.feq_iff.1 (by unfold M.feq; simp [q1, q2, q3, q4, q5]))
          clear hfg
          by_cases q1 : f.path.toList = g.path.toList
          · by_cases q2 : f.dir = g.dir
            · by_cases q3 : f.mode = g.mode
              · by_cases q4 : f.time = g.time
                · have q5 : ¬ f.data.toList = g.data.toList := fun q5 => hq ⟨q1, q2, q3, q4, q5⟩
                  clear hq
                  go_wp2
                  go_region
                  all_goals
                    go_wp2
                    go_ret
                    exact ⟨false, rfl, ⟨fun h => by simp at h, fun h => absurd h HNE.out⟩, HBr.out.drew⟩
                · clear hq
                  go_wp2
                  go_region
                  all_goals
                    go_wp2
                    go_ret
                    exact ⟨false, rfl, ⟨fun h => by simp at h, fun h => absurd h HNE.out⟩, HBr.out.drew⟩
              · clear hq
                go_wp2
                go_region
                all_goals
                  go_wp2
                  go_ret
                  exact ⟨false, rfl, ⟨fun h => by simp at h, fun h => absurd h HNE.out⟩, HBr.out.drew⟩
            · clear hq
              go_wp2
              go_region
              all_goals
                go_wp2
                go_ret
                exact ⟨false, rfl, ⟨fun h => by simp at h, fun h => absurd h HNE.out⟩, HBr.out.drew⟩
          · clear hq
            go_wp2
            go_region
            all_goals
              go_wp2
              go_ret
              exact ⟨false, rfl, ⟨fun h => by simp at h, fun h => absurd h HNE.out⟩, HBr.out.drew⟩
      · have e1 : fs.take k = fs := List.take_of_length_le (by have := HF.out.1; omega)
        have e2 : gs.take k = gs := List.take_of_length_le (by have := HG.out.1; omega)
        have HE : Hid (fs = gs) := by have := HT.out; rw [e1, e2] at this; exact this
        clear e1 e2
        go_wp2
        go_ret
        exact ⟨true, rfl, ⟨fun _ => HE.out, fun _ => rfl⟩, HBr.out⟩
  · have d0 : ((len : Int) != (len' : Int)) = true := by rw [bne_iff_ne]; omega
    go_enter Try.func11, Try.ntmps11
    go_wp2
    go_ret
    exact ⟨false, rfl, ⟨fun h => by simp at h, fun h => absurd (by rw [HF.out.1, HG.out.1, h]) hne⟩, Below.refl _ _⟩
set_option maxRecDepth 100000 in
set_option maxHeartbeats 1600000 in
theorem sSame_any (w : World) (a a' : Option Addr) (len cap len' cap' : Nat) (fs gs : List M.FileD) (h : M.Files w a len cap fs) (h' : M.Files w a' len' cap' gs) :
    Calls Try.prog 5 #[.slice a len cap, .slice a' len' cap'] w fun e w' => ∃ v : Bool, e = .returned (.bool v) ∧ (v = true ↔ len ≤ 400 ∧ len' ≤ 400 ∧ fs = gs) ∧ Below w.heap.size w w' := by
  have hlm : len ≤ 9223372036854775807 := by obtain ⟨_, h1, h2, _⟩ := h; unfold maxLen at h2; omega
  have hlm' : len' ≤ 9223372036854775807 := by obtain ⟨_, h1, h2, _⟩ := h'; unfold maxLen at h2; omega
  have HF : Hid (M.Files w a len cap fs) := h
  have HG : Hid (M.Files w a' len' cap' gs) := h'
  clear h h'
  by_cases hbig : 400 < len
  · have d1 : decide (400 < (len : Int)) = true := decide_eq_true (by omega)
    go_enter Try.func5, Try.ntmps5
    go_wp2
    go_ret
    exact ⟨false, rfl, ⟨fun h => by simp at h, fun h => absurd h.1 (by omega)⟩, Below.refl _ _⟩
  by_cases hbig' : 400 < len'
  · have d2 : decide (400 < (len' : Int)) = true := decide_eq_true (by omega)
    go_enter Try.func5, Try.ntmps5
    go_wp2
    go_ret
    exact ⟨false, rfl, ⟨fun h => by simp at h, fun h => absurd h.2.1 (by omega)⟩, Below.refl _ _⟩
  have d2 : decide (400 < (len' : Int)) = false := decide_eq_false (by omega)
  by_cases hne : len = len'
  · subst hne
    have d0 : ((len : Int) != (len : Int)) = false := by simp
    go_enter Try.func5, Try.ntmps5
    go_wp2
    go_loopw [5] (fun i wr => ∃ k : Nat, i = .int .i64 k ∧ k ≤ len ∧ Hid (fs.take k = gs.take k) ∧ Hid (Below w.heap.size w wr)) (fun i _ => len - (intOf i).toNat)
    case atStart => exact ⟨0, rfl, Nat.zero_le _, rfl, Below.refl _ _⟩
    case round =>
      obtain ⟨k, rfl, hk, HT, HBr⟩ := hrel
      by_cases hlt : k < len
      · obtain ⟨hfl, _, _, hfa⟩ := HF.out.below HBr.out
        obtain ⟨b, off, rfl, hat⟩ := hfa (by omega)
        obtain ⟨c0, c1, c2, c3, c4⟩ := hat k (by omega)
        have hfk := List.getElem?_eq_getElem (l := fs) (i := k) (by omega)
        generalize fs[k]'(by omega) = f at c0 c1 c2 c3 c4 hfk
        have HFK : Hid (fs[k]? = some f) := hfk
        clear hfk hat hfa hfl
        obtain ⟨hfl, _, _, hfa⟩ := HG.out.below HBr.out
        obtain ⟨b', off', rfl, hat⟩ := hfa (by omega)
        obtain ⟨e0, e1, e2, e3, e4⟩ := hat k (by omega)
        have hfk := List.getElem?_eq_getElem (l := gs) (i := k) (by omega)
        generalize gs[k]'(by omega) = g at e0 e1 e2 e3 e4 hfk
        have HGK : Hid (gs[k]? = some g) := hfk
        clear hfk hat hfa hfl
        by_cases hfg : f = g
        · subst hfg
          have HT2 : Hid (fs.take (k + 1) = gs.take (k + 1)) := by
            show _ = _
            rw [M.take_snoc_get HFK.out, M.take_snoc_get HGK.out, HT.out]
          go_wp2
          go_region
          all_goals
            go_wp2
            go_roundw
            case rel => exact ⟨k + 1, by go_num, by omega, HT2, HBr.out.drew⟩
            case measure => simp [intOf]; omega
        · have HNE : Hid (fs ≠ gs) := fun e => by
            have h1 := HFK.out
            rw [e, HGK.out] at h1
            exact hfg (Option.some.inj h1).symm
          have hq : ¬ (f.path.toList = g.path.toList ∧ f.dir = g.dir ∧ f.mode = g.mode ∧ f.time = g.time ∧ f.data.toList = g.data.toList) := fun ⟨q1, q2, q3, q4, q5⟩ => hfg (M.feq_iff.1 (by unfold M.feq; simp [q1, q2, q3, q4, q5]))
          clear hfg
          by_cases q1 : f.path.toList = g.path.toList
          · by_cases q2 : f.dir = g.dir
            · by_cases q3 : f.mode = g.mode
              · by_cases q4 : f.time = g.time
                · have q5 : ¬ f.data.toList = g.data.toList := fun q5 => hq ⟨q1, q2, q3, q4, q5⟩
                  clear hq
                  go_wp2
                  go_region
                  all_goals
                    go_wp2
                    go_ret
                    exact ⟨false, rfl, ⟨fun h => by simp at h, fun h => absurd h.2.2 HNE.out⟩, HBr.out.drew⟩
                · clear hq
                  go_wp2
                  go_region
                  all_goals
                    go_wp2
                    go_ret
                    exact ⟨false, rfl, ⟨fun h => by simp at h, fun h => absurd h.2.2 HNE.out⟩, HBr.out.drew⟩
              · clear hq
                go_wp2
                go_region
                all_goals
                  go_wp2
                  go_ret
                  exact ⟨false, rfl, ⟨fun h => by simp at h, fun h => absurd h.2.2 HNE.out⟩, HBr.out.drew⟩
            · clear hq
              go_wp2
              go_region
              all_goals
                go_wp2
                go_ret
                exact ⟨false, rfl, ⟨fun h => by simp at h, fun h => absurd h.2.2 HNE.out⟩, HBr.out.drew⟩
          · clear hq
            go_wp2
            go_region
            all_goals
              go_wp2
              go_ret
              exact ⟨false, rfl, ⟨fun h => by simp at h, fun h => absurd h.2.2 HNE.out⟩, HBr.out.drew⟩
      · have e1 : fs.take k = fs := List.take_of_length_le (by have := HF.out.1; omega)
        have e2 : gs.take k = gs := List.take_of_length_le (by have := HG.out.1; omega)
        have HE : Hid (fs = gs) := by have := HT.out; rw [e1, e2] at this; exact this
        clear e1 e2
        go_wp2
        go_ret
        exact ⟨true, rfl, ⟨fun _ => ⟨by omega, by omega, HE.out⟩, fun _ => rfl⟩, HBr.out⟩
  · have d0 : ((len : Int) != (len' : Int)) = true := by rw [bne_iff_ne]; omega
    go_enter Try.func5, Try.ntmps5
    go_wp2
    go_ret
    exact ⟨false, rfl, ⟨fun h => by simp at h, fun h => absurd (by rw [HF.out.1, HG.out.1, h.2.2]) hne⟩, Below.refl _ _⟩

set_option maxRecDepth 100000 in
set_option maxHeartbeats 1600000 in
theorem iSame_any (w : World) (a a' : Option Addr) (len cap len' cap' : Nat) (fs gs : List M.FileD) (h : M.Files w a len cap fs) (h' : M.Files w a' len' cap' gs) :
    Calls Try.prog 7 #[.slice a len cap, .slice a' len' cap'] w fun e w' => ∃ v : Bool, e = .returned (.bool v) ∧ (v = true ↔ len ≤ 400 ∧ len' ≤ 400 ∧ fs = gs) ∧ Below w.heap.size w w' := by
  have hlm : len ≤ 9223372036854775807 := by obtain ⟨_, h1, h2, _⟩ := h; unfold maxLen at h2; omega
  have hlm' : len' ≤ 9223372036854775807 := by obtain ⟨_, h1, h2, _⟩ := h'; unfold maxLen at h2; omega
  have HQ : Hid (Calls Try.prog 11 #[.slice a len cap, .slice a' len' cap'] w fun e w' => ∃ v : Bool, e = .returned (.bool v) ∧ (v = true ↔ fs = gs) ∧ Below w.heap.size w w') := equalFiles_any w a a' len cap len' cap' fs gs h h'
  clear h h'
  by_cases hbig : 400 < len
  · have d1 : decide (400 < (len : Int)) = true := decide_eq_true (by omega)
    go_enter Try.func7, Try.ntmps7
    go_wp2
    go_ret
    exact ⟨false, rfl, ⟨fun h => by simp at h, fun h => absurd h.1 (by omega)⟩, Below.refl _ _⟩
  by_cases hbig' : 400 < len'
  · have d2 : decide (400 < (len' : Int)) = true := decide_eq_true (by omega)
    go_enter Try.func7, Try.ntmps7
    go_wp2
    go_ret
    exact ⟨false, rfl, ⟨fun h => by simp at h, fun h => absurd h.2.1 (by omega)⟩, Below.refl _ _⟩
  have d2 : decide (400 < (len' : Int)) = false := decide_eq_false (by omega)
  go_enter Try.func7, Try.ntmps7
  go_wp2_with fail
  refine HQ.out.mono ?_
  rintro e w1 ⟨v, rfl, hv, hb⟩
  have HV : Hid (v = true ↔ fs = gs) := hv
  have HB : Hid (Below w.heap.size w w1) := hb
  clear hv hb
  go_wp2
  go_ret
  exact ⟨v, rfl, ⟨fun h => ⟨by omega, by omega, HV.out.1 h⟩, fun h => HV.out.2 h.2.2⟩, HB.out⟩
end Go.Proofs.Ytbmbcfnlpbbapag
