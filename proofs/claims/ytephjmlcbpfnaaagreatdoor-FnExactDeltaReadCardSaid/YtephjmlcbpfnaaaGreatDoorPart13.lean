/-
  What eqFile and eqFileS of the laws do.
-/
import Derived.Test.YtephjmlcbpfnaaaGreatDoorRows
import Derived.Test.YtephjmlcbpfnaaaGreatDoorPart6
import Derived.Deep.RegionWith
import Derived.WalkKit
import Derived.WalkSpells
import Derived.WalkLawsBesides
import Derived.Sort.Walk0
namespace Go.Proofs.YtephjmlcbpfnaaaGreatDoor
open Go.RowKit

set_option maxRecDepth 100000 in
set_option maxHeartbeats 800000 in
theorem eqFile_any (f g : M.FileD) (w : World) :
    Calls Tryz.prog 67 #[M.fval f, M.fval g] w fun e w' => e = .returned (.bool (M.feq f g)) ∧ Below w.heap.size w w' := by
  obtain ⟨p, d, m, t, x⟩ := f
  obtain ⟨p', d', m', t', x'⟩ := g
  have fin : Below w.heap.size w ((w.alloc (.cells #[.string p, .bool d, .int .i64 m, .int .i64 t, .string x] 54)).alloc (.cells #[.string p', .bool d', .int .i64 m', .int .i64 t', .string x'] 54)) :=
    ((Below.refl _ _).alloc (Nat.le_refl _) _).alloc (by simp) _
  have FIN : Hid _ := fin
  clear fin
  show Calls Tryz.prog 67 #[.agg #[.string p, .bool d, .int .i64 m, .int .i64 t, .string x], .agg #[.string p', .bool d', .int .i64 m', .int .i64 t', .string x']] w _
  unfold M.feq
  simp only
  cases h1 : (p.toList == p'.toList)
  · go_enter Tryz.func67, Tryz.ntmps67
    go_wp2
    go_ret
    exact ⟨rfl, FIN.out⟩
  cases h2 : (d == d')
  · go_enter Tryz.func67, Tryz.ntmps67
    go_wp2
    go_ret
    exact ⟨rfl, FIN.out⟩
  cases h3 : (m == m')
  · go_enter Tryz.func67, Tryz.ntmps67
    go_wp2
    go_ret
    exact ⟨rfl, FIN.out⟩
  cases h4 : (t == t')
  · go_enter Tryz.func67, Tryz.ntmps67
    go_wp2
    go_ret
    exact ⟨rfl, FIN.out⟩
  cases h5 : (x.toList == x'.toList)
  · go_enter Tryz.func67, Tryz.ntmps67
    go_wp2
    go_ret
    exact ⟨rfl, FIN.out⟩
  · go_enter Tryz.func67, Tryz.ntmps67
    go_wp2
    go_ret
    exact ⟨rfl, FIN.out⟩

set_option maxRecDepth 100000 in
set_option maxHeartbeats 1600000 in
theorem eqFileS_any (w : World) (a a' : Option Addr) (len cap len' cap' : Nat) (fs gs : List M.FileD) (h : M.Files w a len cap fs) (h' : M.Files w a' len' cap' gs) :
    Calls Tryz.prog 35 #[.slice a len cap, .slice a' len' cap'] w fun e w' => ∃ v : Bool, e = .returned (.bool v) ∧ (v = true ↔ fs = gs) ∧ Below w.heap.size w w' := by
  have hlm : len ≤ 9223372036854775807 := by obtain ⟨_, h1, h2, _⟩ := h; unfold maxLen at h2; omega
  have hlm' : len' ≤ 9223372036854775807 := by obtain ⟨_, h1, h2, _⟩ := h'; unfold maxLen at h2; omega
  have HF : Hid (M.Files w a len cap fs) := h
  have HG : Hid (M.Files w a' len' cap' gs) := h'
  clear h h'
  by_cases hne : len = len'
  · subst hne
    have d0 : ((len : Int) != (len : Int)) = false := by simp
    go_enter Tryz.func35, Tryz.ntmps35
    go_wp2
    go_loopw [5] (fun i wr => ∃ k : Nat, i = .int .i64 k ∧ k ≤ len ∧ Hid (fs.take k = gs.take k) ∧ Hid (Below w.heap.size w wr)) (fun i _ => len - (intOf i).toNat)
    case atStart => exact ⟨0, rfl, Nat.zero_le _, rfl, Below.refl _ _⟩
    case round =>
      obtain ⟨k, rfl, hk, HT, HBr⟩ := hrel
      by_cases hlt : k < len
      · obtain ⟨hfl, _, _, hfa⟩ := HF.out.below HBr.out
        obtain ⟨b, off, rfl, hat⟩ := hfa (by omega)
        obtain ⟨c0, c1, c2, c3, c4⟩ := hat k (by omega)
        have hfk := List.getElem?_eq_getElem (l := fs) (i := k) (by omega)
        generalize fs[k]'(by omega) = f at c0 c1 c2 c3 c4 hfk
        have HFK : Hid (fs[k]? = some f) := hfk
        clear hfk hat hfa hfl
        obtain ⟨hfl, _, _, hfa⟩ := HG.out.below HBr.out
        obtain ⟨b', off', rfl, hat⟩ := hfa (by omega)
        obtain ⟨e0, e1, e2, e3, e4⟩ := hat k (by omega)
        have hfk := List.getElem?_eq_getElem (l := gs) (i := k) (by omega)
        generalize gs[k]'(by omega) = g at e0 e1 e2 e3 e4 hfk
        have HGK : Hid (gs[k]? = some g) := hfk
        clear hfk hat hfa hfl
        have hq := eqFile_any f g
        unfold M.fval at hq
        cases hfg : M.feq f g
        · rw [hfg] at hq
          have HQ : Hid _ := hq
          have HNE : Hid (fs ≠ gs) := fun e => by
            have h1 := HFK.out
            rw [e, HGK.out] at h1
            rw [Option.some.inj h1, M.feq_iff.2 rfl] at hfg
            simp at hfg
          clear hq hfg
          go_wp2_with fail
          go_region_with (go_at_call 67; refine (HQ.out _).mono ?_; rintro e w2 ⟨rfl, hb2⟩)
          all_goals
            go_wp2
            go_ret
            exact ⟨false, rfl, ⟨fun h => by simp at h, fun h => absurd h HNE.out⟩, HBr.out.trans ((show Below wr.heap.size wr w2 from ⟨hb2.os, hb2.tape, hb2.output, hb2.size, hb2.block⟩).mono HBr.out.size)⟩
        · rw [hfg] at hq
          have HQ : Hid _ := hq
          have HT2 : Hid (fs.take (k + 1) = gs.take (k + 1)) := by
            show _ = _
            rw [M.take_snoc_get HFK.out, M.take_snoc_get HGK.out, HT.out, M.feq_iff.1 hfg]
          clear hq hfg
          go_wp2_with fail
          go_region_with (go_at_call 67; refine (HQ.out _).mono ?_; rintro e w2 ⟨rfl, hb2⟩)
          all_goals
            go_wp2
            go_roundw
            case rel => exact ⟨k + 1, by go_num, by omega, HT2, HBr.out.trans ((show Below wr.heap.size wr w2 from ⟨hb2.os, hb2.tape, hb2.output, hb2.size, hb2.block⟩).mono HBr.out.size)⟩
            case measure => simp [intOf]; omega
      · have e1 : fs.take k = fs := List.take_of_length_le (by have := HF.out.1; omega)
        have e2 : gs.take k = gs := List.take_of_length_le (by have := HG.out.1; omega)
        have HE : Hid (fs = gs) := by have := HT.out; rw [e1, e2] at this; exact this
        clear e1 e2
        go_wp2
        go_ret
        exact ⟨true, rfl, ⟨fun _ => HE.out, fun _ => rfl⟩, HBr.out⟩
  · have d0 : ((len : Int) != (len' : Int)) = true := by rw [bne_iff_ne]; omega
    go_enter Tryz.func35, Tryz.ntmps35
    go_wp2
    go_ret
    exact ⟨false, rfl, ⟨fun h => by simp at h, fun h => absurd (by rw [HF.out.1, HG.out.1, h]) hne⟩, Below.refl _ _⟩
end Go.Proofs.YtephjmlcbpfnaaaGreatDoor

/-
  What the laws' helpers on files do: toFile, toFileS, eqFile, eqFileS, szFile, szFileS.
-/
namespace Go.Proofs.YtephjmlcbpfnaaaGreatDoor
open Go.RowKit

theorem Tryz.infoF : (Tryz.prog.info? 54).map (fun i => (i.zero, i.size, i.bytes)) = some (some (.agg #[.string ⟨#[]⟩, .bool false, .int .i64 0, .int .i64 0, .string ⟨#[]⟩]), 5, 56) := by kernel_rfl

set_option maxRecDepth 100000 in
set_option maxHeartbeats 800000 in
theorem toFile_any (f : M.FileD) (w : World) :
    Calls Tryz.prog 55 #[M.fval f] w fun e w' => e = .returned (M.fval f) ∧ Below w.heap.size w w' := by
  obtain ⟨p, d, m, t, x⟩ := f
  show Calls Tryz.prog 55 #[.agg #[.string p, .bool d, .int .i64 m, .int .i64 t, .string x]] w _
  go_enter Tryz.func55, Tryz.ntmps55
  go_wp2
  refine bodyPost_ret (v := .agg #[.string p, .bool d, .int .i64 m, .int .i64 t, .string x]) (by simp [results, Tryz.results55, go_sem]) rfl ⟨rfl, ?_⟩
  exact (((Below.refl _ _).alloc (Nat.le_refl _) _).alloc (by simp) _).alloc (by simp; omega) _

set_option maxRecDepth 100000 in
set_option maxHeartbeats 1600000 in
theorem toFileS_any (w : World) (a : Option Addr) (len cap : Nat) (fs : List M.FileD) (h : M.Files w a len cap fs) (hlen : len ≤ 1048576) :
    Calls Tryz.prog 25 #[.slice a len cap] w fun e w' => e = .returned (.slice (some ⟨w.heap.size, 0, none⟩) len len) ∧ M.FilesAt w' w.heap.size 0 fs ∧ M.Row w' w.heap.size 54 (len * 5) ∧ Below w.heap.size w w' := by
  obtain ⟨i0, hi, hz0, hz1, hz2⟩ := info_parts Tryz.infoF
  have HF : Hid (M.Files w a len cap fs) := h
  clear h
  go_enter Tryz.func25, Tryz.ntmps25
  go_wp2_with (at_make; refine wpList_make_full _ rfl (.tmp 6) (.tmp 6) 27 rfl w.heap.size 54 i0 _ 5 Tryz.underlying27 hi hz0 hz1 .i64 .i64 _ _ len rfl rfl rfl rfl ?c3 ?c4 ?c5 ?_)
  case c3 => rw [hz2]; omega
  case c4 => unfold maxLen; omega
  case c5 => exact Nat.le_refl _
  intro w1 hown hgrow
  have hrow : M.Row w1 w.heap.size 54 (len * 5) := by
    obtain ⟨hl, h | ⟨g, cp, cur, hv, hb, hh, hn, hc, hz, ht⟩⟩ := hown
    · simp at h
    · simp only [Value.slice.injEq, Option.some.injEq, Addr.mk.injEq] at hv
      obtain ⟨⟨rfl, _, _⟩, _, rfl⟩ := hv
      exact ⟨cur, hh, hz⟩
  have hb1 : Below w.heap.size w w1 := ⟨hgrow.os, hgrow.tape, hgrow.output, hgrow.size, fun k hk => hgrow.block k hk (by simp)⟩
  have HROW : Hid (M.Row w1 w.heap.size 54 (len * 5)) := hrow
  have HB1 : Hid _ := hb1
  clear hown hgrow hrow hb1
  go_wp2
  go_loopw [4] (fun i wr => ∃ k : Nat, i = .int .i64 k ∧ k ≤ len ∧ Hid (M.Row wr w.heap.size 54 (len * 5)) ∧ Hid (M.FilesAt wr w.heap.size 0 (fs.take k)) ∧ Hid (Below w.heap.size w wr)) (fun i _ => len - (intOf i).toNat)
  case atStart => exact ⟨0, rfl, Nat.zero_le _, HROW, fun i hi => by simp at hi, HB1⟩
  case round =>
    obtain ⟨k, rfl, hk, HRr, HFr, HBr⟩ := hrel
    by_cases hlt : k < len
    · obtain ⟨hfl, _, _, hfa⟩ := HF.out.below HBr.out
      obtain ⟨b, off, rfl, hat⟩ := hfa (by omega)
      obtain ⟨c0, c1, c2, c3, c4⟩ := hat k (by omega)
      have hfk := List.getElem?_eq_getElem (l := fs) (i := k) (by omega)
      generalize fs[k]'(by omega) = f at c0 c1 c2 c3 c4 hfk
      have HFK : Hid (fs[k]? = some f) := hfk
      have HLN : Hid (len = fs.length) := hfl
      clear hfk hat hfa hfl
      have hT := toFile_any f
      unfold M.fval at hT
      have HT : Hid _ := hT
      clear hT
      go_wp2_with fail
      refine (HT.out _).mono ?_
      rintro e w2 ⟨rfl, hb2⟩
      have hblk := hb2.block w.heap.size HRr.out.lt
      have hR2 := HRr.out.of_block hblk
      have hF2 := HFr.out.of_block hblk
      have HR2 : Hid (M.Row w2 w.heap.size 54 (len * 5)) := hR2
      have HF2 : Hid (M.FilesAt w2 w.heap.size 0 (fs.take k)) := hF2
      have HB2 : Hid (Below w.heap.size w w2) := HBr.out.trans (hb2.mono HBr.out.size)
      obtain ⟨v0, g0⟩ := hR2.cell (i := k * 5) (by omega)
      obtain ⟨v1, g1⟩ := hR2.cell (i := k * 5 + 1) (by omega)
      obtain ⟨v2, g2⟩ := hR2.cell (i := k * 5 + 2) (by omega)
      obtain ⟨v3, g3⟩ := hR2.cell (i := k * 5 + 3) (by omega)
      obtain ⟨v4, g4⟩ := hR2.cell (i := k * 5 + 4) (by omega)
      have e0 := hR2.free (k * 5)
      have e1 := hR2.free (k * 5 + 1)
      have e2 := hR2.free (k * 5 + 2)
      have e3 := hR2.free (k * 5 + 3)
      have e4 := hR2.free (k * 5 + 4)
      clear hb2 hblk hR2 hF2 c0 c1 c2 c3 c4
      go_wp2
      go_roundw
      case rel =>
        have hp := M.FilesAt.push (off := 0) (k := k) (f := f) HF2.out HR2.out (by have := HLN.out; simp; omega) (by omega)
        simp only [Nat.zero_add] at hp
        refine ⟨k + 1, by go_num, by omega, HR2.out.set5 _ _ _ _ _ _, ?_, ?_⟩
        · show M.FilesAt _ _ _ _
          rw [M.take_snoc_get HFK.out]; exact hp
        · exact (((((HB2.out.setCell (by exact Nat.le_refl _) _).setCell (by exact Nat.le_refl _) _).setCell (by exact Nat.le_refl _) _).setCell (by exact Nat.le_refl _) _).setCell (by exact Nat.le_refl _) _)
      case measure => simp [intOf]; omega
    · have hall : fs.take k = fs := List.take_of_length_le (by have := HF.out.1; omega)
      have HF3 : Hid (M.FilesAt wr w.heap.size 0 fs) := by have := HFr.out; rw [hall] at this; exact this
      clear hall
      go_wp2
      go_ret
      exact ⟨rfl, HF3.out, HRr.out, HBr.out⟩

/-- How much is left of 'left' behind a file. -/
def M.szF (f : M.FileD) (left : Int) : Int := if left - f.path.size < 0 then -1 else if left - f.path.size - f.data.size < 0 then -1 else left - f.path.size - f.data.size
set_option maxRecDepth 100000 in
set_option maxHeartbeats 800000 in
theorem szFile_any (f : M.FileD) (left : Int) (w : World) (h1 : f.path.size ≤ maxLen) (h2 : f.data.size ≤ maxLen) (h3 : 0 ≤ left) (h4 : left ≤ 1048576) :
    Calls Tryz.prog 47 #[M.fval f, .int .i64 left] w fun e w' => e = .returned (.int .i64 (M.szF f left)) ∧ Below w.heap.size w w' := by
  obtain ⟨p, d, m, t, x⟩ := f
  simp only at h1 h2
  unfold maxLen at h1 h2
  show Calls Tryz.prog 47 #[.agg #[.string p, .bool d, .int .i64 m, .int .i64 t, .string x], .int .i64 left] w _
  have fin : Below w.heap.size w (w.alloc (.cells #[.string p, .bool d, .int .i64 m, .int .i64 t, .string x] 73)) := (Below.refl _ _).alloc (Nat.le_refl _) _
  have FIN : Hid _ := fin
  clear fin
  unfold M.szF
  simp only
  by_cases ha : left - p.size < 0
  · rw [if_pos ha]
    go_enter Tryz.func47, Tryz.ntmps47
    go_wp2
    go_ret
    exact ⟨rfl, FIN.out⟩
  rw [if_neg ha]
  by_cases hb : left - p.size - x.size < 0
  · rw [if_pos hb]
    go_enter Tryz.func47, Tryz.ntmps47
    go_wp2
    go_ret
    exact ⟨rfl, FIN.out⟩
  · rw [if_neg hb]
    go_enter Tryz.func47, Tryz.ntmps47
    go_wp2
    go_ret
    exact ⟨rfl, FIN.out⟩

theorem M.szF_ok {f : M.FileD} {left : Int} (h : 0 ≤ M.szF f left) : (f.path.size : Int) + f.data.size ≤ left ∧ M.szF f left ≤ left := by
  unfold M.szF at h ⊢
  by_cases ha : left - f.path.size < 0
  · rw [if_pos ha] at h; omega
  · rw [if_neg ha] at h ⊢
    by_cases hb : left - f.path.size - f.data.size < 0
    · rw [if_pos hb] at h; omega
    · rw [if_neg hb] at h ⊢; omega
theorem M.szF_lo (f : M.FileD) (left : Int) (h : left ≤ 1048576) : -1 ≤ M.szF f left ∧ M.szF f left ≤ 1048576 := by
  unfold M.szF
  split
  · omega
  · split <;> omega

set_option maxRecDepth 100000 in
set_option maxHeartbeats 1600000 in
theorem szFileS_any (w : World) (a : Option Addr) (len cap : Nat) (fs : List M.FileD) (left : Int) (h : M.Files w a len cap fs) (hok : ∀ f ∈ fs, M.fok f) (h3 : 0 ≤ left) (h4 : left ≤ 1048576) :
    Calls Tryz.prog 21 #[.slice a len cap, .int .i64 left] w fun e w' => ∃ v : Int, e = .returned (.int .i64 v) ∧ v ≤ 1048576 ∧ (0 ≤ v → (len : Int) ≤ left ∧ ∀ f ∈ fs, (f.path.size : Int) + f.data.size ≤ left) ∧ Below w.heap.size w w' := by
  have hlm : len ≤ 9223372036854775807 := by obtain ⟨_, h1, h2, _⟩ := h; unfold maxLen at h2; omega
  have HF : Hid (M.Files w a len cap fs) := h
  have HOK : Hid (∀ f ∈ fs, M.fok f) := hok
  clear h hok
  by_cases hl : left - len < 0
  · go_enter Tryz.func21, Tryz.ntmps21
    go_wp2
    go_ret
    exact ⟨-1, rfl, by omega, fun h => by omega, Below.refl _ _⟩
  have POST : Hid (∀ (v : Int) (W : World), (v ≤ 1048576) → (0 ≤ v → ∀ f ∈ fs, (f.path.size : Int) + f.data.size ≤ left) → Below w.heap.size w W → ∃ u : Int, Ending.returned (.int .i64 v) = .returned (.int .i64 u) ∧ u ≤ 1048576 ∧ (0 ≤ u → (len : Int) ≤ left ∧ ∀ f ∈ fs, (f.path.size : Int) + f.data.size ≤ left) ∧ Below w.heap.size w W) :=
    fun v W hv hx hb => ⟨v, rfl, hv, fun h => ⟨by omega, hx h⟩, hb⟩
  go_enter Tryz.func21, Tryz.ntmps21
  go_wp2
  go_loopw [1, 5] (fun z i wr => ∃ (k : Nat) (l : Int), i = .int .i64 k ∧ z = .int .i64 l ∧ k ≤ len ∧ 0 ≤ l ∧ l ≤ left ∧ Hid (∀ f ∈ fs.take k, (f.path.size : Int) + f.data.size ≤ left) ∧ Hid (Below w.heap.size w wr)) (fun _ i _ => len - (intOf i).toNat)
  case atStart => exact ⟨0, _, rfl, rfl, Nat.zero_le _, by omega, by omega, fun f hf => by simp at hf, Below.refl _ _⟩
  case round =>
    obtain ⟨k, l, rfl, rfl, hk, hl0, hl1, HA, HBr⟩ := hrel
    by_cases hlt : k < len
    · obtain ⟨hfl, _, _, hfa⟩ := HF.out.below HBr.out
      obtain ⟨b, off, rfl, hat⟩ := hfa (by omega)
      obtain ⟨c0, c1, c2, c3, c4⟩ := hat k (by omega)
      have hfk := List.getElem?_eq_getElem (l := fs) (i := k) (by omega)
      generalize fs[k]'(by omega) = f at c0 c1 c2 c3 c4 hfk
      obtain ⟨o1, o2, _⟩ := HOK.out f (List.mem_of_getElem? hfk)
      have HFK : Hid (fs[k]? = some f) := hfk
      have hz := szFile_any f l
      unfold M.fval at hz
      have HZ : Hid _ := hz
      have hzl := M.szF_lo f l (by omega)
      have hzo := @M.szF_ok f l
      have HO1 : Hid (f.path.size ≤ maxLen) := o1
      have HO2 : Hid (f.data.size ≤ maxLen) := o2
      clear hfk hat hfa hfl o1 o2 hz
      generalize M.szF f l = s at HZ hzl hzo
      have HZO : Hid _ := hzo
      clear hzo
      obtain ⟨hz1, hz2⟩ := hzl
      go_wp2_with fail
      refine (HZ.out _ HO1.out HO2.out (by omega) (by omega)).mono ?_
      rintro e w2 ⟨rfl, hb2⟩
      have HB2 : Hid (Below w.heap.size w w2) := HBr.out.trans (hb2.mono HBr.out.size)
      clear hb2 c0 c1 c2 c3 c4
      by_cases hs : s < 0
      · go_wp2
        go_ret
        exact POST.out _ _ (by omega) (fun h => by omega) HB2.out
      · have hz3 := HZO.out (by omega)
        have HA2 : Hid (∀ f ∈ fs.take (k + 1), (f.path.size : Int) + f.data.size ≤ left) := by
          show ∀ f ∈ _, _
          rw [M.take_snoc_get HFK.out]
          intro g hg
          rcases List.mem_append.1 hg with h | h
          · exact HA.out g h
          · obtain rfl := List.mem_singleton.1 h
            omega
        have hz4 := hz3.2
        clear hz3
        go_wp2
        go_roundw
        case rel => exact ⟨k + 1, s, by go_num, rfl, by omega, by omega, by omega, HA2, HB2⟩
        case measure => simp [intOf]; omega
    · have hall : fs.take k = fs := List.take_of_length_le (by have := HF.out.1; omega)
      have HA3 : Hid (∀ f ∈ fs, (f.path.size : Int) + f.data.size ≤ left) := by have := HA.out; rw [hall] at this; exact this
      clear hall
      go_wp2
      go_ret
      exact POST.out _ _ (by omega) (fun _ => HA3.out) HBr.out

end Go.Proofs.YtephjmlcbpfnaaaGreatDoor

/-
  What l02Place of the specification does: where a search for a path among files ends, and whether it is there.
-/
namespace Go.Proofs.YtephjmlcbpfnaaaGreatDoor
open Go.RowKit

theorem M.FilesAt.below {w w' : World} {b off : Nat} {fs : List M.FileD} (h : M.FilesAt w b off fs) (hb : Below w.heap.size w w') : M.FilesAt w' b off fs := by
  intro i hi
  have hlt : b < w.heap.size := World.block_lt_of_cell? w _ (h i hi).1
  exact M.FilesAt.of_block h (hb.block b hlt) i hi
theorem M.less_yes {a b : ByteArray} (h : M.ltB a b) : Op.bytesLess a.toList b.toList = true := by
  rw [Proofs.bytesLess_eq, ByteArray.toList_eq, ByteArray.toList_eq]
  exact decide_eq_true h
theorem M.less_no {a b : ByteArray} (h : ¬ M.ltB a b) : Op.bytesLess a.toList b.toList = false := by
  rw [Proofs.bytesLess_eq, ByteArray.toList_eq, ByteArray.toList_eq]
  exact decide_eq_false h
theorem M.place_hit {fs : List M.FileD} {p : ByteArray} {k : Nat} {f : M.FileD} (hk : fs[k]? = some f) (hl : ∀ j (_ : j < k) (h : j < fs.length), M.ltB fs[j].path p) (h : ¬ M.ltB f.path p) : M.Place fs p k := by
  obtain ⟨h1, rfl⟩ := List.getElem?_eq_some_iff.1 hk
  exact ⟨by omega, hl, fun _ => h⟩
theorem M.there_hit {fs : List M.FileD} {p : ByteArray} {k : Nat} {f : M.FileD} (hk : fs[k]? = some f) : M.There fs p k ↔ f.path = p := by
  obtain ⟨h1, rfl⟩ := List.getElem?_eq_some_iff.1 hk
  exact ⟨fun ⟨_, h⟩ => h, fun h => ⟨h1, h⟩⟩

set_option maxRecDepth 100000 in
set_option maxHeartbeats 1600000 in
theorem sPlace_any (w : World) (a : Option Addr) (len cap : Nat) (fs : List M.FileD) (p : ByteArray) (h : M.Files w a len cap fs) :
    Calls Tryz.prog 49 #[.slice a len cap, .string p] w fun e w' => ∃ (k : Nat) (v : Bool), e = .returned (.tuple #[.int .i64 k, .bool v]) ∧ M.Place fs p k ∧ (v = true ↔ M.There fs p k) ∧ Below w.heap.size w w' := by
  have hlm : len ≤ 9223372036854775807 := by obtain ⟨_, h1, h2, _⟩ := h; unfold maxLen at h2; omega
  have hfl : len = fs.length := h.1
  have HFL : Hid (len = fs.length) := hfl
  have HF : Hid (M.Files w a len cap fs) := h
  clear h hfl
  go_enter Tryz.func49, Tryz.ntmps49
  go_wp2
  go_loopw [6] (fun i wr => ∃ k : Nat, i = .int .i64 k ∧ k ≤ len ∧ Hid (∀ j (_ : j < k) (h : j < fs.length), M.ltB fs[j].path p) ∧ Hid (Below w.heap.size w wr)) (fun i _ => len - (intOf i).toNat)
  case atStart => exact ⟨0, rfl, Nat.zero_le _, fun j hj => absurd hj (Nat.not_lt_zero _), Below.refl _ _⟩
  case round =>
    obtain ⟨k, rfl, hk, HL, HBr⟩ := hrel
    by_cases hlt : k < len
    · have hfl := HFL.out
      obtain ⟨-, -, -, hfa⟩ := HF.out.below HBr.out
      obtain ⟨b, off, rfl, hat⟩ := hfa (by omega)
      obtain ⟨c0, c1, c2, c3, c4⟩ := hat k (by omega)
      have d0 : decide ((k : Int) < (len : Int)) = true := decide_eq_true (by omega)
      have hfk := List.getElem?_eq_getElem (l := fs) (i := k) (by omega)
      generalize fs[k]'(by omega) = f at c0 c1 c2 c3 c4 hfk
      have HFK : Hid (fs[k]? = some f) := hfk
      clear hfk hat hfa c1 c2 c3 c4 hfl
      by_cases hl : M.ltB f.path p
      · have HL2 : Hid (∀ j (_ : j < k + 1) (h : j < fs.length), M.ltB fs[j].path p) := fun j hj h => by
          by_cases e : j = k
          · subst e
            obtain ⟨_, hx⟩ := List.getElem?_eq_some_iff.1 HFK.out
            rw [hx]; exact hl
          · exact HL.out j (by omega) h
        have hb := M.less_yes hl
        clear hl HL
        go_wp2
        go_roundw
        case rel => exact ⟨k + 1, by go_num, by omega, HL2, HBr⟩
        case measure => simp [intOf]; omega
      · have HP : Hid (M.Place fs p k) := M.place_hit HFK.out HL.out hl
        have HX : Hid (M.There fs p k ↔ f.path = p) := M.there_hit HFK.out
        have hb := M.less_no hl
        clear hl HL HFK
        cases hq : (f.path.toList == p.toList)
        · have HNE : Hid (f.path ≠ p) := fun e => by rw [e] at hq; simp at hq
          go_wp2
          go_region
          all_goals
            go_wp2
            go_ret2
            exact ⟨k, false, rfl, HP.out, ⟨fun h => by simp at h, fun h => absurd (HX.out.1 h) HNE.out⟩, HBr.out.drew⟩
        · have HEQ : Hid (f.path = p) := M.bytes_eq (by simpa using hq)
          go_wp2
          go_region
          all_goals
            go_wp2
            go_ret2
            exact ⟨k, true, rfl, HP.out, ⟨fun _ => HX.out.2 HEQ.out, fun _ => rfl⟩, HBr.out.drew⟩
    · have d0 : decide ((k : Int) < (len : Int)) = false := decide_eq_false (by omega)
      have hfl := HFL.out
      have HP : Hid (M.Place fs p k) := ⟨by omega, HL.out, fun h => absurd h (by omega)⟩
      have HX : Hid (¬ M.There fs p k) := fun ⟨h, _⟩ => absurd h (by omega)
      clear HL hfl
      go_wp2
      go_region
      all_goals
        go_wp2
        go_ret2
        exact ⟨k, false, rfl, HP.out, ⟨fun h => by simp at h, fun h => absurd h HX.out⟩, HBr.out.drew⟩
end Go.Proofs.YtephjmlcbpfnaaaGreatDoor
