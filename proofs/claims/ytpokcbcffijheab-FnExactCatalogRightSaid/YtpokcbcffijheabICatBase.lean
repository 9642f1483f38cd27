/-
  What the program looks at each dump of a catalog by: dumpWrong, rising with the numbers that it compares.
-/
import Derived.Test.YtpokcbcffijheabOwnDump
import Derived.Test.YtpokcbcffijheabIDumpR
import Derived.Test.YtpokcbcffijheabWide
namespace Go.Proofs.Ytpokcbcffijheab
open Go.RowKit

set_option maxRecDepth 100000 in
set_option maxHeartbeats 800000 in
theorem iDumpWrong_any (w : World) (x1 : Int) (hs : ByteArray) (x2 x3 x4 x5 x6 x7 : Int) (a : Option Addr) (n c : Nat) (ps : List M.PartD) (h : M.Pts w a n c ps) (hz : hs.size ≤ maxLen) :
    Calls Try.prog 28 #[.agg #[.int .i64 x1, .string hs, .int .i64 x2, .int .i64 x3, .int .i64 x4, .int .i64 x5, .int .i64 x6, .int .i64 x7, .slice a n c]] w fun e w' => e = .returned (.bool (!M.dumpR ⟨x1, hs, x2, x3, x4, x5, x6, x7, ps⟩)) ∧ Below w.heap.size w w' := by
  have HB : Hid (∀ o, Below w.heap.size w (w.alloc o)) := fun o => (Below.refl _ _).alloc (Nat.le_refl _) _
  have CR : Hid (∀ o, Calls Try.prog 39 #[.agg #[.int .i64 x1, .string hs, .int .i64 x2, .int .i64 x3, .int .i64 x4, .int .i64 x5, .int .i64 x6, .int .i64 x7, .slice a n c]] (w.alloc o) fun e w' => e = .returned (.bool (M.dumpR ⟨x1, hs, x2, x3, x4, x5, x6, x7, ps⟩)) ∧ Below (w.alloc o).heap.size (w.alloc o) w') := fun o => iDumpR_any _ x1 hs x2 x3 x4 x5 x6 x7 a n c ps (h.below (HB.out o)) hz
  clear h
  generalize M.dumpR ⟨x1, hs, x2, x3, x4, x5, x6, x7, ps⟩ = r at CR ⊢
  go_enter Try.func28, Try.ntmps28
  go_wp2_with fail
  refine (CR.out _).mono ?_
  rintro e w1 ⟨rfl, hb⟩
  have B1 := M.hl (M.sl (HB.out _) hb)
  clear hb CR
  go_wp2
  go_ret
  exact ⟨rfl, B1.out⟩

set_option maxRecDepth 100000 in
set_option maxHeartbeats 1600000 in
theorem iIdxDw_any (w : World) (a : Option Addr) (n c : Nat) (ds : List M.DumpD) (h : M.Dps w a n c ds) (hok : ∀ d ∈ ds, d.host.size ≤ maxLen) :
    Calls Try.prog 57 #[.slice a n c, .func (.func 28) #[] #[]] w fun e w' => ∃ v : Int, e = .returned (.int .i64 v) ∧ -1 ≤ v ∧ v ≤ 9223372036854775807 ∧ (0 ≤ v ↔ ∃ t ∈ ds, M.dumpR t = false) ∧ Below w.heap.size w w' := by
  have hlm : n ≤ 9223372036854775807 := h.max
  have HF := M.hl h
  have HOK := M.hl hok
  clear h hok
  go_enter Try.func57, Try.ntmps57
  go_wp2
  go_loopw [8] (fun i wr => ∃ k : Nat, i = .int .i64 k ∧ k ≤ n ∧ Hid (∀ t ∈ ds.take k, M.dumpR t = true) ∧ Hid (Below w.heap.size w wr)) (fun i _ => n - (intOf i).toNat)
  case atStart => exact ⟨0, rfl, Nat.zero_le _, (fun s hs => by simp at hs), Below.refl _ _⟩
  case round =>
    obtain ⟨k, rfl, hk, HA, HBr⟩ := hrel
    by_cases hlt : k < n
    · obtain ⟨b, off, f, rfl, hfk, ⟨c0, c1, c2, c3, c4, c5, c6, c7⟩, pa, pn, pc, c8, hp⟩ := (HF.out.below HBr.out).at hlt
      have HFK := M.hl hfk
      have CW := M.hl (iDumpWrong_any wr f.id f.host f.run f.lev f.base f.day f.many f.crc pa pn pc f.ps hp (HOK.out f (List.mem_of_getElem? hfk)))
      have HE : Hid (M.dumpR ⟨f.id, f.host, f.run, f.lev, f.base, f.day, f.many, f.crc, f.ps⟩ = M.dumpR f) := rfl
      clear hfk hp
      cases hr : M.dumpR f
      · rw [HE.out, hr] at CW
        have HX : Hid (∃ t ∈ ds, M.dumpR t = false) := ⟨_, List.mem_of_getElem? HFK.out, hr⟩
        clear hr HE
        go_wp2_with fail
        refine CW.out.mono ?_
        rintro e w2 ⟨rfl, hb⟩
        have HB2 : Hid (Below w.heap.size w w2) := HBr.out.trans (hb.mono HBr.out.size)
        clear hb c0 c1 c2 c3 c4 c5 c6 c7 c8
        go_wp2
        go_ret
        exact ⟨k, rfl, by omega, by omega, ⟨fun _ => HX.out, fun _ => by omega⟩, HB2.out⟩
      · rw [HE.out, hr] at CW
        have HA2 : Hid (∀ t ∈ ds.take (k + 1), M.dumpR t = true) := by
          show ∀ t ∈ _, _
          rw [List.take_add_one, HFK.out]
          intro t ht
          rcases List.mem_append.1 ht with h | h
          · exact HA.out t h
          · simp at h
            rw [h]; exact hr
        clear hr HE
        go_wp2_with fail
        refine CW.out.mono ?_
        rintro e w2 ⟨rfl, hb⟩
        have HB2 : Hid (Below w.heap.size w w2) := HBr.out.trans (hb.mono HBr.out.size)
        clear hb c0 c1 c2 c3 c4 c5 c6 c7 c8
        go_wp2
        go_roundw
        case rel => exact ⟨k + 1, by go_num, by omega, HA2, HB2⟩
        case measure => simp [intOf]; omega
    · have HX : Hid (¬ ∃ t ∈ ds, M.dumpR t = false) := by
        rintro ⟨t, ht, hne⟩
        have := HA.out
        rw [List.take_of_length_le (by have := HF.out.1; omega)] at this
        rw [this t ht] at hne
        cases hne
      go_wp2
      go_ret
      exact ⟨-1, rfl, by omega, by omega, ⟨fun h => by omega, fun h => absurd h HX.out⟩, HBr.out⟩

set_option maxRecDepth 100000 in
set_option maxHeartbeats 800000 in
theorem iConDw_any (w : World) (a : Option Addr) (n c : Nat) (ds : List M.DumpD) (h : M.Dps w a n c ds) (hok : ∀ d ∈ ds, d.host.size ≤ maxLen) :
    Calls Try.prog 27 #[.slice a n c, .func (.func 28) #[] #[]] w fun e w' => e = .returned (.bool (!(ds.all M.dumpR))) ∧ Below w.heap.size w w' := by
  have CI := M.hl (iIdxDw_any w a n c ds h hok)
  clear h hok
  go_enter Try.func27, Try.ntmps27
  go_wp2_with fail
  refine CI.out.mono ?_
  rintro e w1 ⟨v, rfl, hv1, hv2, hv, hb⟩
  have HB := M.hl hb
  clear hb
  by_cases h0 : 0 ≤ v
  · have HX : Hid ((!(ds.all M.dumpR)) = true) := by
      show _ = _
      obtain ⟨s, hs, hne⟩ := hv.1 h0
      rw [Bool.not_eq_true', List.all_eq_false]
      exact ⟨s, hs, by rw [hne]; simp⟩
    clear hv
    go_wp2
    go_ret
    exact ⟨by rw [HX.out]; rfl, HB.out⟩
  · have HX : Hid ((!(ds.all M.dumpR)) = false) := by
      show _ = _
      rw [Bool.not_eq_false', List.all_eq_true]
      intro s hs
      cases e : M.dumpR s
      · exact absurd (hv.2 ⟨s, hs, e⟩) h0
      · rfl
    clear hv
    have d0 : decide (0 ≤ v) = false := decide_eq_false h0
    go_wp2
    go_ret
    exact ⟨by rw [HX.out]; rfl, HB.out⟩

/-- Is a number of each dump greater than that of the one ahead of it? -/
def M.risF (f : M.DumpD → Int) (ds : List M.DumpD) : Prop := ∀ i x y, ds[i]? = some x → ds[i + 1]? = some y → f x < f y
end Go.Proofs.Ytpokcbcffijheab
