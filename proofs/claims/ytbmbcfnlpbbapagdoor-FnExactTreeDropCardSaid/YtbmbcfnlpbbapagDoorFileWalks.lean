/-
  What the laws' helpers on files do: toFile, toFileS, eqFile, eqFileS, szFile, szFileS.
-/
import Derived.Test.YtbmbcfnlpbbapagDoorRows
import Derived.Test.YtbmbcfnlpbbapagDoorFileMath
import Derived.Test.YtbmbcfnlpbbapagDoorEqFiles
import Derived.Deep.RegionWith
namespace Go.Proofs.YtbmbcfnlpbbapagDoor
open Go.RowKit

theorem Tryd.infoF : (Tryd.prog.info? 31).map (fun i => (i.zero, i.size, i.bytes)) = some (some (.agg #[.string ⟨#[]⟩, .bool false, .int .i64 0, .int .i64 0, .string ⟨#[]⟩]), 5, 56) := by kernel_rfl

set_option maxRecDepth 100000 in
set_option maxHeartbeats 800000 in
theorem toFile_any (f : M.FileD) (w : World) :
    Calls Tryd.prog 28 #[M.fval f] w fun e w' => e = .returned (M.fval f) ∧ Below w.heap.size w w' := by
  obtain ⟨p, d, m, t, x⟩ := f
  show Calls Tryd.prog 28 #[.agg #[.string p, .bool d, .int .i64 m, .int .i64 t, .string x]] w _
  go_enter Tryd.func28, Tryd.ntmps28
  go_wp2
  refine bodyPost_ret (v := .agg #[.string p, .bool d, .int .i64 m, .int .i64 t, .string x]) (by simp [results, Tryd.results28, go_sem]) rfl ⟨rfl, ?_⟩
  exact (((Below.refl _ _).alloc (Nat.le_refl _) _).alloc (by simp) _).alloc (by simp; omega) _

set_option maxRecDepth 100000 in
set_option maxHeartbeats 1600000 in
theorem toFileS_any (w : World) (a : Option Addr) (len cap : Nat) (fs : List M.FileD) (h : M.Files w a len cap fs) (hlen : len ≤ 1048576) :
    Calls Tryd.prog 11 #[.slice a len cap] w fun e w' => e = .returned (.slice (some ⟨w.heap.size, 0, none⟩) len len) ∧ M.FilesAt w' w.heap.size 0 fs ∧ M.Row w' w.heap.size 31 (len * 5) ∧ Below w.heap.size w w' := by
  obtain ⟨i0, hi, hz0, hz1, hz2⟩ := info_parts Tryd.infoF
  have HF : Hid (M.Files w a len cap fs) := h
  clear h
  go_enter Tryd.func11, Tryd.ntmps11
  go_wp2_with (at_make; refine wpList_make_full _ rfl (.tmp 6) (.tmp 6) 26 rfl w.heap.size 31 i0 _ 5 Tryd.underlying26 hi hz0 hz1 .i64 .i64 _ _ len rfl rfl rfl rfl ?c3 ?c4 ?c5 ?_)
  case c3 => rw [hz2]; omega
  case c4 => unfold maxLen; omega
  case c5 => exact Nat.le_refl _
  intro w1 hown hgrow
  have hrow : M.Row w1 w.heap.size 31 (len * 5) := by
    obtain ⟨hl, h | ⟨g, cp, cur, hv, hb, hh, hn, hc, hz, ht⟩⟩ := hown
    · simp at h
    · simp only [Value.slice.injEq, Option.some.injEq, Addr.mk.injEq] at hv
      obtain ⟨⟨rfl, _, _⟩, _, rfl⟩ := hv
      exact ⟨cur, hh, hz⟩
  have hb1 : Below w.heap.size w w1 := ⟨hgrow.os, hgrow.tape, hgrow.output, hgrow.size, fun k hk => hgrow.block k hk (by simp)⟩
  have HROW : Hid (M.Row w1 w.heap.size 31 (len * 5)) := hrow
  have HB1 : Hid _ := hb1
  clear hown hgrow hrow hb1
  go_wp2
  go_loopw [4] (fun i wr => ∃ k : Nat, i = .int .i64 k ∧ k ≤ len ∧ Hid (M.Row wr w.heap.size 31 (len * 5)) ∧ Hid (M.FilesAt wr w.heap.size 0 (fs.take k)) ∧ Hid (Below w.heap.size w wr)) (fun i _ => len - (intOf i).toNat)
  case atStart => exact ⟨0, rfl, Nat.zero_le _, HROW, fun i hi => by simp at hi, HB1⟩
  case round =>
    obtain ⟨k, rfl, hk, HRr, HFr, HBr⟩ := hrel
    by_cases hlt : k < len
    · obtain ⟨hfl, _, _, hfa⟩ := HF.out.below HBr.out
      obtain ⟨b, off, rfl, hat⟩ := hfa (by omega)
      obtain ⟨c0, c1, c2, c3, c4⟩ := hat k (by omega)
      have hfk := List.getElem?_eq_getElem (l := fs) (i := k) (by omega)
      generalize fs[k]'(by omega) = f at c0 c1 c2 c3 c4 hfk
      have HFK : Hid (fs[k]? = some f) := hfk
      have HLN : Hid (len = fs.length) := hfl
      clear hfk hat hfa hfl
      have hT := toFile_any f
      unfold M.fval at hT
      have HT : Hid _ := hT
      clear hT
      go_wp2_with fail
      refine (HT.out _).mono ?_
      rintro e w2 ⟨rfl, hb2⟩
      have hblk := hb2.block w.heap.size HRr.out.lt
      have hR2 := HRr.out.of_block hblk
      have hF2 := HFr.out.of_block hblk
      have HR2 : Hid (M.Row w2 w.heap.size 31 (len * 5)) := hR2
      have HF2 : Hid (M.FilesAt w2 w.heap.size 0 (fs.take k)) := hF2
      have HB2 : Hid (Below w.heap.size w w2) := HBr.out.trans (hb2.mono HBr.out.size)
      obtain ⟨v0, g0⟩ := hR2.cell (i := k * 5) (by omega)
      obtain ⟨v1, g1⟩ := hR2.cell (i := k * 5 + 1) (by omega)
      obtain ⟨v2, g2⟩ := hR2.cell (i := k * 5 + 2) (by omega)
      obtain ⟨v3, g3⟩ := hR2.cell (i := k * 5 + 3) (by omega)
      obtain ⟨v4, g4⟩ := hR2.cell (i := k * 5 + 4) (by omega)
      have e0 := hR2.free (k * 5)
      have e1 := hR2.free (k * 5 + 1)
      have e2 := hR2.free (k * 5 + 2)
      have e3 := hR2.free (k * 5 + 3)
      have e4 := hR2.free (k * 5 + 4)
      clear hb2 hblk hR2 hF2 c0 c1 c2 c3 c4
      go_wp2
      go_roundw
      case rel =>
        have hp := M.FilesAt.push (off := 0) (k := k) (f := f) HF2.out HR2.out (by have := HLN.out; simp; omega) (by omega)
        simp only [Nat.zero_add] at hp
        refine ⟨k + 1, by go_num, by omega, HR2.out.set5 _ _ _ _ _ _, ?_, ?_⟩
        · show M.FilesAt _ _ _ _
          rw [M.take_snoc_get HFK.out]; exact hp
        · exact (((((HB2.out.setCell (by exact Nat.le_refl _) _).setCell (by exact Nat.le_refl _) _).setCell (by exact Nat.le_refl _) _).setCell (by exact Nat.le_refl _) _).setCell (by exact Nat.le_refl _) _)
      case measure => simp [intOf]; omega
    · have hall : fs.take k = fs := List.take_of_length_le (by have := HF.out.1; omega)
      have HF3 : Hid (M.FilesAt wr w.heap.size 0 fs) := by have := HFr.out; rw [hall] at this; exact this
      clear hall
      go_wp2
      go_ret
      exact ⟨rfl, HF3.out, HRr.out, HBr.out⟩

/-- How much is left of 'left' behind a file. -/
def M.szF (f : M.FileD) (left : Int) : Int := if left - f.path.size < 0 then -1 else if left - f.path.size - f.data.size < 0 then -1 else left - f.path.size - f.data.size
set_option maxRecDepth 100000 in
set_option maxHeartbeats 800000 in
theorem szFile_any (f : M.FileD) (left : Int) (w : World) (h1 : f.path.size ≤ maxLen) (h2 : f.data.size ≤ maxLen) (h3 : 0 ≤ left) (h4 : left ≤ 1048576) :
    Calls Tryd.prog 24 #[M.fval f, .int .i64 left] w fun e w' => e = .returned (.int .i64 (M.szF f left)) ∧ Below w.heap.size w w' := by
  obtain ⟨p, d, m, t, x⟩ := f
  simp only at h1 h2
  unfold maxLen at h1 h2
  show Calls Tryd.prog 24 #[.agg #[.string p, .bool d, .int .i64 m, .int .i64 t, .string x], .int .i64 left] w _
  have fin : Below w.heap.size w (w.alloc (.cells #[.string p, .bool d, .int .i64 m, .int .i64 t, .string x] 41)) := (Below.refl _ _).alloc (Nat.le_refl _) _
  have FIN : Hid _ := fin
  clear fin
  unfold M.szF
  simp only
  by_cases ha : left - p.size < 0
  · rw [if_pos ha]
    go_enter Tryd.func24, Tryd.ntmps24
    go_wp2
    go_ret
    exact ⟨rfl, FIN.out⟩
  rw [if_neg ha]
  by_cases hb : left - p.size - x.size < 0
  · rw [if_pos hb]
    go_enter Tryd.func24, Tryd.ntmps24
    go_wp2
    go_ret
    exact ⟨rfl, FIN.out⟩
  · rw [if_neg hb]
    go_enter Tryd.func24, Tryd.ntmps24
    go_wp2
    go_ret
    exact ⟨rfl, FIN.out⟩

theorem M.szF_ok {f : M.FileD} {left : Int} (h : 0 ≤ M.szF f left) : (f.path.size : Int) + f.data.size ≤ left ∧ M.szF f left ≤ left := by
  unfold M.szF at h ⊢
  by_cases ha : left - f.path.size < 0
  · rw [if_pos ha] at h; omega
  · rw [if_neg ha] at h ⊢
    by_cases hb : left - f.path.size - f.data.size < 0
    · rw [if_pos hb] at h; omega
    · rw [if_neg hb] at h ⊢; omega
theorem M.szF_lo (f : M.FileD) (left : Int) (h : left ≤ 1048576) : -1 ≤ M.szF f left ∧ M.szF f left ≤ 1048576 := by
  unfold M.szF
  split
  · omega
  · split <;> omega

set_option maxRecDepth 100000 in
set_option maxHeartbeats 1600000 in
theorem szFileS_any (w : World) (a : Option Addr) (len cap : Nat) (fs : List M.FileD) (left : Int) (h : M.Files w a len cap fs) (hok : ∀ f ∈ fs, M.fok f) (h3 : 0 ≤ left) (h4 : left ≤ 1048576) :
    Calls Tryd.prog 9 #[.slice a len cap, .int .i64 left] w fun e w' => ∃ v : Int, e = .returned (.int .i64 v) ∧ v ≤ 1048576 ∧ (0 ≤ v → (len : Int) ≤ left ∧ ∀ f ∈ fs, (f.path.size : Int) + f.data.size ≤ left) ∧ Below w.heap.size w w' := by
  have hlm : len ≤ 9223372036854775807 := by obtain ⟨_, h1, h2, _⟩ := h; unfold maxLen at h2; omega
  have HF : Hid (M.Files w a len cap fs) := h
  have HOK : Hid (∀ f ∈ fs, M.fok f) := hok
  clear h hok
  by_cases hl : left - len < 0
  · go_enter Tryd.func9, Tryd.ntmps9
    go_wp2
    go_ret
    exact ⟨-1, rfl, by omega, fun h => by omega, Below.refl _ _⟩
  have POST : Hid (∀ (v : Int) (W : World), (v ≤ 1048576) → (0 ≤ v → ∀ f ∈ fs, (f.path.size : Int) + f.data.size ≤ left) → Below w.heap.size w W → ∃ u : Int, Ending.returned (.int .i64 v) = .returned (.int .i64 u) ∧ u ≤ 1048576 ∧ (0 ≤ u → (len : Int) ≤ left ∧ ∀ f ∈ fs, (f.path.size : Int) + f.data.size ≤ left) ∧ Below w.heap.size w W) :=
    fun v W hv hx hb => ⟨v, rfl, hv, fun h => ⟨by omega, hx h⟩, hb⟩
  go_enter Tryd.func9, Tryd.ntmps9
  go_wp2
  go_loopw [1, 5] (fun z i wr => ∃ (k : Nat) (l : Int), i = .int .i64 k ∧ z = .int .i64 l ∧ k ≤ len ∧ 0 ≤ l ∧ l ≤ left ∧ Hid (∀ f ∈ fs.take k, (f.path.size : Int) + f.data.size ≤ left) ∧ Hid (Below w.heap.size w wr)) (fun _ i _ => len - (intOf i).toNat)
  case atStart => exact ⟨0, _, rfl, rfl, Nat.zero_le _, by omega, by omega, fun f hf => by simp at hf, Below.refl _ _⟩
  case round =>
    obtain ⟨k, l, rfl, rfl, hk, hl0, hl1, HA, HBr⟩ := hrel
    by_cases hlt : k < len
    · obtain ⟨hfl, _, _, hfa⟩ := HF.out.below HBr.out
      obtain ⟨b, off, rfl, hat⟩ := hfa (by omega)
      obtain ⟨c0, c1, c2, c3, c4⟩ := hat k (by omega)
      have hfk := List.getElem?_eq_getElem (l := fs) (i := k) (by omega)
      generalize fs[k]'(by omega) = f at c0 c1 c2 c3 c4 hfk
      obtain ⟨o1, o2, _⟩ := HOK.out f (List.mem_of_getElem? hfk)
      have HFK : Hid (fs[k]? = some f) := hfk
      have hz := szFile_any f l
      unfold M.fval at hz
      have HZ : Hid _ := hz
      have hzl := M.szF_lo f l (by omega)
      have hzo := @M.szF_ok f l
      have HO1 : Hid (f.path.size ≤ maxLen) := o1
      have HO2 : Hid (f.data.size ≤ maxLen) := o2
      clear hfk hat hfa hfl o1 o2 hz
      generalize M.szF f l = s at HZ hzl hzo
      have HZO : Hid _ := hzo
      clear hzo
      obtain ⟨hz1, hz2⟩ := hzl
      go_wp2_with fail
      refine (HZ.out _ HO1.out HO2.out (by omega) (by omega)).mono ?_
      rintro e w2 ⟨rfl, hb2⟩
      have HB2 : Hid (Below w.heap.size w w2) := HBr.out.trans (hb2.mono HBr.out.size)
      clear hb2 c0 c1 c2 c3 c4
      by_cases hs : s < 0
      · go_wp2
        go_ret
        exact POST.out _ _ (by omega) (fun h => by omega) HB2.out
      · have hz3 := HZO.out (by omega)
        have HA2 : Hid (∀ f ∈ fs.take (k + 1), (f.path.size : Int) + f.data.size ≤ left) := by
          show ∀ f ∈ _, _
          rw [M.take_snoc_get HFK.out]
          intro g hg
          rcases List.mem_append.1 hg with h | h
          · exact HA.out g h
          · obtain rfl := List.mem_singleton.1 h
            omega
        have hz4 := hz3.2
        clear hz3
        go_wp2
        go_roundw
        case rel => exact ⟨k + 1, s, by go_num, rfl, by omega, by omega, by omega, HA2, HB2⟩
        case measure => simp [intOf]; omega
    · have hall : fs.take k = fs := List.take_of_length_le (by have := HF.out.1; omega)
      have HA3 : Hid (∀ f ∈ fs, (f.path.size : Int) + f.data.size ≤ left) := by have := HA.out; rw [hall] at this; exact this
      clear hall
      go_wp2
      go_ret
      exact POST.out _ _ (by omega) (fun _ => HA3.out) HBr.out

end Go.Proofs.YtbmbcfnlpbbapagDoor
