/-
  What l03Pack and Pack of the specification do.
-/
import Derived.Test.YtephjmlcbpfnaaaGreatDoorPart9
import Derived.Test.YtephjmlcbpfnaaaGreatDoorOwnBytes
namespace Go.Proofs.YtephjmlcbpfnaaaGreatDoor
open Go.RowKit

theorem M.fileR_bd {f : M.FileD} (h : M.fileR f = true) : f.path.size ≤ 150 ∧ (0 ≤ f.mode ∧ f.mode ≤ 4095) ∧ (0 ≤ f.time ∧ f.time ≤ 1000000000) ∧ f.data.size ≤ 1200 := by
  unfold M.fileR at h
  simp only [Bool.and_eq_true, decide_eq_true_eq] at h
  obtain ⟨⟨⟨⟨h1, h2⟩, h3⟩, h4⟩, _⟩ := h
  refine ⟨?_, h2, h3, h4⟩
  unfold M.pathR at h1
  simp only [Bool.and_eq_true, decide_eq_true_eq] at h1
  exact h1.1
theorem M.entryB_size {f : M.FileD} (h : M.fileR f = true) : (M.entryB f).size ≤ 3072 := by
  obtain ⟨hp, hm, ht, hd⟩ := M.fileR_bd h
  have hn := M.fullB_size f.path f.dir hp
  have hf := M.fillB_le hd
  unfold M.entryB
  rw [ByteArray.size_append, ByteArray.size_append]
  by_cases hl : 100 < (M.fullB f.path f.dir).size
  · rw [if_pos hl, if_pos hl, M.paxB_size hl hn, M.head_size (by rw [ByteArray.size_extract]; omega) (by omega) (by omega) (by omega)]; omega
  · rw [if_neg hl, if_neg hl, M.head_size (by omega) (by omega) (by omega) (by omega)]
    show 0 + 512 + _ ≤ 3072
    omega
theorem M.entriesL_snoc {fs : List M.FileD} {k : Nat} {f : M.FileD} (h : fs[k]? = some f) : M.entriesL (fs.take (k + 1)) = M.entriesL (fs.take k) ++ (M.entryB f).data.toList := by
  obtain ⟨hk, rfl⟩ := List.getElem?_eq_some_iff.1 h
  rw [List.take_succ_eq_append_getElem hk]
  simp only [M.entriesL, List.flatMap_append, List.flatMap_cons, List.flatMap_nil, List.append_nil]

theorem M.entriesL_le {fs : List M.FileD} (h : ∀ f ∈ fs, M.fileR f = true) : (M.entriesL fs).length ≤ 3072 * fs.length := by
  induction fs with
  | nil => exact Nat.zero_le _
  | cons f fs ih =>
    have h1 := ih (fun g hg => h g (List.mem_cons_of_mem _ hg))
    have h2 := M.entryB_size (h f List.mem_cons_self)
    unfold M.entriesL at h1 ⊢
    rw [List.flatMap_cons, List.length_append, ← Lib.size_eq, List.length_cons]
    omega

set_option maxRecDepth 100000 in
set_option maxHeartbeats 800000 in
theorem sLPack_any (w : World) (a : Option Addr) (len cap : Nat) (fs : List M.FileD) (h : M.Files w a len cap fs) (hr : ∀ f ∈ fs, M.fileR f = true) (hl : len ≤ 20) :
    Calls Tryz.prog 94 #[.slice a len cap] w fun e w' => e = .returned (.string (M.archB fs)) ∧ Below w.heap.size w w' := by
  have HFL : Hid (len = fs.length) := h.1
  have HF : Hid (M.Files w a len cap fs) := h
  have HOK : Hid (∀ f ∈ fs, M.fileR f = true) := hr
  obtain ⟨i0, hi, hz0, hz1, hz2⟩ := info_parts Tryz.infoB8
  clear h hr
  go_enter Tryz.func94, Tryz.ntmps94
  go_wp2
  go_loopw [3, 4] (fun v i wr => ∃ (k : Nat) (L : List UInt8), i = .int .i64 k ∧ k ≤ len ∧ L.length ≤ 3072 * k ∧ Hid (L = M.entriesL (fs.take k)) ∧ Hid (M.OwnB wr w.heap.size v L) ∧ Hid (Below w.heap.size w wr)) (fun _ i _ => len - (intOf i).toNat)
  case atStart => exact ⟨0, [], rfl, Nat.zero_le _, Nat.le_refl _, rfl, ⟨rfl, .inr ⟨_, 0, #[], rfl, Nat.le_refl _, heap_alloc_new _ _, Nat.le_refl _, by decide, rfl, rfl⟩⟩, (Below.refl _ _).alloc (Nat.le_refl _) _⟩
  case round =>
    obtain ⟨k, L, rfl, hk, hLk, HL, HO, HBr⟩ := hrel
    by_cases hlt : k < len
    · have hfl := HFL.out
      obtain ⟨-, -, -, hfa⟩ := HF.out.below HBr.out
      obtain ⟨b, off, rfl, hat⟩ := hfa (by omega)
      obtain ⟨c0, c1, c2, c3, c4⟩ := hat k (by omega)
      have hfk := List.getElem?_eq_getElem (l := fs) (i := k) (by omega)
      generalize fs[k]'(by omega) = f at c0 c1 c2 c3 c4 hfk
      have HFK : Hid (fs[k]? = some f) := hfk
      have HRF : Hid (M.fileR f = true) := HOK.out f (List.mem_of_getElem? hfk)
      have hes := M.entryB_size HRF.out
      obtain ⟨en, hen⟩ : ∃ en, en = M.entryB f := ⟨_, rfl⟩
      have HEN : Hid (en = M.entryB f) := hen
      have hC := sEntry_any f wr (M.fileR_bd HRF.out).1 (M.fileR_bd HRF.out).2.1 (M.fileR_bd HRF.out).2.2.1 (M.fileR_bd HRF.out).2.2.2
      rw [← hen] at hC hes
      unfold M.fval at hC
      have HC : Hid (Calls Tryz.prog 147 #[.agg #[.string f.path, .bool f.dir, .int .i64 f.mode, .int .i64 f.time, .string f.data]] wr fun e w' => e = .returned (.string en) ∧ Below wr.heap.size wr w') := hC
      clear hfk hat hfa hfl hen hC
      go_wp2_with fail
      refine HC.out.mono ?_
      rintro e w1 ⟨rfl, hb1⟩
      have HO1 := HO.out.below hb1
      have HB1 : Below w.heap.size w w1 := HBr.out.trans (hb1.mono HBr.out.size)
      have hsz1 := HB1.size
      clear hb1
      go_wp2_with (at_builtin; refine Lib.wpList_append_own_string _ rfl (.tmp 12) (.tmp 17) 61 9 rfl w.heap.size 5 i0 Tryz.underlying61 Tryz.underlying9 hi hz0 hz1 hz2 _ _ _ rfl HO1 en rfl ?c1 ?c2 ?c3 ?_)
      case c1 => unfold maxLen; omega
      case c2 => omega
      case c3 => exact hsz1
      intro v' w2 hown' hgrow _
      have HO2 : Hid (M.OwnB w2 w.heap.size v' (L ++ en.data.toList)) := M.OwnB.more hown'
      have HB2 : Hid (Below w.heap.size w w2) := HB1.grown hgrow hsz1 (fun k hk => (World.ownsRow.lt HO1 k hk).1)
      have HL2 : Hid (L ++ en.data.toList = M.entriesL (fs.take (k + 1))) := by show _ = _; rw [M.entriesL_snoc HFK.out, ← HL.out, HEN.out]
      have hl2 : (L ++ en.data.toList).length ≤ 3072 * (k + 1) := by rw [List.length_append, ← Lib.size_eq]; omega
      clear hgrow hown' HO1 HB1 hsz1 c0 c1 c2 c3 c4
      go_wp2
      go_roundw
      case rel => exact ⟨k + 1, L ++ en.data.toList, by go_num, by omega, hl2, HL2, HO2, HB2⟩
      case measure => simp [intOf]; omega
    · have HE : Hid (⟨L.toArray⟩ ++ M.zerosB 1024 = M.archB fs) := by
        show _ = _
        rw [HL.out, List.take_of_length_le (by rw [← HFL.out]; omega)]
        rfl
      have hls : (⟨L.toArray⟩ : ByteArray).size ≤ 70000 := by rw [Lib.size_eq]; show L.length ≤ _; omega
      have qc : ∀ x : M.Wd wr, _ := fun x => M.OwnB.conv HO.out x.bel
      have HX : Hid (∀ x : M.Wd wr, Below w.heap.size w x.val) := fun x => HBr.out.trans (x.bel.mono HBr.out.size)
      have C1 : Hid (∀ x : M.Wd wr, Calls Tryz.prog 102 #[.int .i64 1024] x.val fun e w' => e = .returned (.string (M.zerosB 1024)) ∧ Below x.val.heap.size x.val w') := fun x => sZeros_any 1024 x.val (by decide)
      have hz : (M.zerosB 1024).size = 1024 := M.zerosB_size _
      generalize M.zerosB 1024 = z at hz HE C1
      generalize (⟨L.toArray⟩ : ByteArray) = y at qc HE hls
      go_wp2_with fail
      refine M.wp_region_wd (by kernel_rfl) (by kernel_rfl) (fun _ => ?_)
      repeat (first | go_big_quiet_skip | (go_big_quiet_want; go_big_quiet_op; first | go_big_quiet_on | (apply Exists.intro; refine ⟨fun x => ?_, ?_⟩; exact M.Wd.call x (C1.out x); go_big_quiet_on)))
      refine wpQuiet_nil ?_
      intro w9 hw'
      have HB9 : Hid (Below w.heap.size w w9) := by obtain ⟨x, rfl⟩ := hw'; exact HX.out x
      clear hw' qc
      go_wp2
      go_ret
      exact ⟨by rw [← HE.out]; rfl, HB9.out⟩
end Go.Proofs.YtephjmlcbpfnaaaGreatDoor

/-
  What Pack of the specification does.
-/
namespace Go.Proofs.YtephjmlcbpfnaaaGreatDoor
open Go.RowKit

theorem M.packB_no {fs : List M.FileD} (h : ¬ (fs.length ≤ 20 ∧ (fs.all M.fileR = true) ∧ (M.archB fs).size ≤ 20000)) : M.packB fs = ⟨#[]⟩ := by unfold M.packB; rw [if_neg h]
theorem M.packB_yes {fs : List M.FileD} (h1 : fs.length ≤ 20) (h2 : ∀ f ∈ fs, M.fileR f = true) (h3 : (M.archB fs).size ≤ 20000) : M.packB fs = M.archB fs := by
  unfold M.packB; rw [if_pos ⟨h1, List.all_eq_true.2 h2, h3⟩]
theorem M.packB_bad {fs : List M.FileD} {f : M.FileD} {k : Nat} (hk : fs[k]? = some f) (h : M.fileR f = false) : M.packB fs = ⟨#[]⟩ :=
  M.packB_no (fun hh => by have := List.all_eq_true.1 hh.2.1 f (List.mem_of_getElem? hk); rw [h] at this; cases this)
theorem M.upto_all {fs : List M.FileD} {k : Nat} (h : ∀ j f, j < k → fs[j]? = some f → M.fileR f = true) (hk : fs.length ≤ k) : ∀ f ∈ fs, M.fileR f = true := fun f hf => by
  obtain ⟨j, hj, rfl⟩ := List.getElem_of_mem hf
  exact h j _ (by omega) (List.getElem?_eq_getElem hj)
theorem M.upto_next {fs : List M.FileD} {k : Nat} {f : M.FileD} (h : ∀ j f, j < k → fs[j]? = some f → M.fileR f = true) (hk : fs[k]? = some f) (hf : M.fileR f = true) : ∀ j f, j < k + 1 → fs[j]? = some f → M.fileR f = true := fun j g hj hg => by
  by_cases e : j = k
  · subst e; rw [hk] at hg; cases hg; exact hf
  · exact h j g (by omega) hg

set_option maxRecDepth 100000 in
set_option maxHeartbeats 800000 in
theorem sPack_any (w : World) (a : Option Addr) (len cap : Nat) (fs : List M.FileD) (h : M.Files w a len cap fs) (hok : ∀ f ∈ fs, M.fok f) :
    Calls Tryz.prog 71 #[.slice a len cap] w fun e w' => e = .returned (.string (M.packB fs)) ∧ Below w.heap.size w w' := by
  have hlm : len ≤ 9223372036854775807 := by obtain ⟨_, h1, h2, _⟩ := h; unfold maxLen at h2; omega
  have HFL : Hid (len = fs.length) := h.1
  have HF : Hid (M.Files w a len cap fs) := h
  have HOK : Hid (∀ f ∈ fs, M.fok f) := hok
  clear h hok
  by_cases h20 : 20 < len
  · have hE : Hid (M.packB fs = ⟨#[]⟩) := M.packB_no (by rw [← HFL.out]; omega)
    go_enter Tryz.func71, Tryz.ntmps71
    go_wp2
    go_ret
    exact ⟨by rw [hE.out]; rfl, Below.refl _ _⟩
  have d20 : decide (20 < (len : Int)) = false := decide_eq_false (by omega)
  go_enter Tryz.func71, Tryz.ntmps71
  go_wp2
  go_loopw [3] (fun i wr => ∃ k : Nat, i = .int .i64 k ∧ k ≤ len ∧ Hid (∀ j f, j < k → fs[j]? = some f → M.fileR f = true) ∧ Hid (Below w.heap.size w wr)) (fun i _ => len - (intOf i).toNat)
  case atStart => exact ⟨0, rfl, Nat.zero_le _, fun j f hj => absurd hj (Nat.not_lt_zero _), Below.refl _ _⟩
  case round =>
    obtain ⟨k, rfl, hk, HG, HBr⟩ := hrel
    by_cases hlt : k < len
    · have hfl := HFL.out
      obtain ⟨-, -, -, hfa⟩ := HF.out.below HBr.out
      obtain ⟨b, off, rfl, hat⟩ := hfa (by omega)
      obtain ⟨c0, c1, c2, c3, c4⟩ := hat k (by omega)
      have hfk := List.getElem?_eq_getElem (l := fs) (i := k) (by omega)
      generalize fs[k]'(by omega) = f at c0 c1 c2 c3 c4 hfk
      have HFK : Hid (fs[k]? = some f) := hfk
      have hC := sFile_any f wr (HOK.out f (List.mem_of_getElem? hfk))
      unfold M.fval at hC
      cases hr : M.fileR f
      · rw [hr] at hC
        have hE : Hid (M.packB fs = ⟨#[]⟩) := M.packB_bad hfk hr
        have HC : Hid (Calls Tryz.prog 85 #[.agg #[.string f.path, .bool f.dir, .int .i64 f.mode, .int .i64 f.time, .string f.data]] wr fun e w' => e = .returned (.bool false) ∧ Below wr.heap.size wr w') := hC
        clear hfk hat hfa hfl hC hr
        go_wp2_with fail
        refine HC.out.mono ?_
        rintro e w1 ⟨rfl, hb1⟩
        have HB1 : Hid (Below w.heap.size w w1) := M.s1' HBr.out hb1
        clear hb1
        go_wp2
        go_ret
        exact ⟨by rw [hE.out]; rfl, HB1.out⟩
      · rw [hr] at hC
        have HG2 : Hid (∀ j f, j < k + 1 → fs[j]? = some f → M.fileR f = true) := M.upto_next HG.out hfk hr
        have HC : Hid (Calls Tryz.prog 85 #[.agg #[.string f.path, .bool f.dir, .int .i64 f.mode, .int .i64 f.time, .string f.data]] wr fun e w' => e = .returned (.bool true) ∧ Below wr.heap.size wr w') := hC
        clear hfk hat hfa hfl hC hr
        go_wp2_with fail
        refine HC.out.mono ?_
        rintro e w1 ⟨rfl, hb1⟩
        have HB1 : Hid (Below w.heap.size w w1) := M.s1' HBr.out hb1
        clear hb1
        go_wp2
        go_roundw
        case rel => exact ⟨k + 1, by go_num, by omega, HG2, HB1⟩
        case measure => simp [intOf]; omega
    · have HA : Hid (∀ f ∈ fs, M.fileR f = true) := M.upto_all HG.out (by rw [← HFL.out]; omega)
      have HC : Hid (Calls Tryz.prog 94 #[.slice a len cap] wr fun e w' => e = .returned (.string (M.archB fs)) ∧ Below wr.heap.size wr w') := sLPack_any wr a len cap fs (HF.out.below HBr.out) HA.out (by omega)
      have HS : Hid (∀ y, y = M.archB fs → (y.size ≤ 20000 → M.packB fs = y) ∧ (20000 < y.size → M.packB fs = ⟨#[]⟩)) := fun y hy =>
        ⟨fun hh => by rw [hy] at hh ⊢; exact M.packB_yes (by rw [← HFL.out]; omega) HA.out hh, fun hh => M.packB_no (by rw [← hy]; omega)⟩
      have hys : (M.archB fs).size ≤ 1000000 := by
        unfold M.archB
        rw [ByteArray.size_append, M.zerosB_size, Lib.size_eq]
        show (M.entriesL fs).length + 1024 ≤ _
        have := M.entriesL_le (fs := fs) HA.out
        rw [← HFL.out] at this
        omega
      go_wp2_with fail
      refine HC.out.mono ?_
      rintro e w1 ⟨rfl, hb1⟩
      have HB1 : Hid (Below w.heap.size w w1) := M.s1' HBr.out hb1
      obtain ⟨y, hy⟩ : ∃ y, y = M.archB fs := ⟨_, rfl⟩
      have HY := HS.out y hy
      rw [← hy] at hys ⊢
      clear hb1 hy
      by_cases h2 : 20000 < y.size
      · have hE : Hid (M.packB fs = ⟨#[]⟩) := HY.2 h2
        clear HY
        go_wp2
        go_ret
        exact ⟨by rw [hE.out]; rfl, HB1.out⟩
      · have hE : Hid (M.packB fs = y) := HY.1 (by omega)
        clear HY
        go_wp2
        go_ret
        exact ⟨by rw [hE.out]; rfl, HB1.out⟩
end Go.Proofs.YtephjmlcbpfnaaaGreatDoor
