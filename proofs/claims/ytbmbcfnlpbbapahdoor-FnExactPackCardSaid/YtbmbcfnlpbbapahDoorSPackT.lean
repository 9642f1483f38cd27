/-
  What Pack of the specification does.
-/
import Derived.Test.YtbmbcfnlpbbapahDoorSPackW
namespace Go.Proofs.YtbmbcfnlpbbapahDoor
open Go.RowKit

theorem M.packB_no {fs : List M.FileD} (h : ¬ (fs.length ≤ 20 ∧ (fs.all M.fileR = true) ∧ (M.archB fs).size ≤ 20000)) : M.packB fs = ⟨#[]⟩ := by unfold M.packB; rw [if_neg h]
theorem M.packB_yes {fs : List M.FileD} (h1 : fs.length ≤ 20) (h2 : ∀ f ∈ fs, M.fileR f = true) (h3 : (M.archB fs).size ≤ 20000) : M.packB fs = M.archB fs := by
  unfold M.packB; rw [if_pos ⟨h1, List.all_eq_true.2 h2, h3⟩]
theorem M.packB_bad {fs : List M.FileD} {f : M.FileD} {k : Nat} (hk : fs[k]? = some f) (h : M.fileR f = false) : M.packB fs = ⟨#[]⟩ :=
  M.packB_no (fun hh => by have := List.all_eq_true.1 hh.2.1 f (List.mem_of_getElem? hk); rw [h] at this; cases this)
theorem M.upto_all {fs : List M.FileD} {k : Nat} (h : ∀ j f, j < k → fs[j]? = some f → M.fileR f = true) (hk : fs.length ≤ k) : ∀ f ∈ fs, M.fileR f = true := fun f hf => by
  obtain ⟨j, hj, rfl⟩ := List.getElem_of_mem hf
  exact h j _ (by omega) (List.getElem?_eq_getElem hj)
theorem M.upto_next {fs : List M.FileD} {k : Nat} {f : M.FileD} (h : ∀ j f, j < k → fs[j]? = some f → M.fileR f = true) (hk : fs[k]? = some f) (hf : M.fileR f = true) : ∀ j f, j < k + 1 → fs[j]? = some f → M.fileR f = true := fun j g hj hg => by
  by_cases e : j = k
  · subst e; rw [hk] at hg; cases hg; exact hf
  · exact h j g (by omega) hg

set_option maxRecDepth 100000 in
set_option maxHeartbeats 800000 in
theorem sPack_any (w : World) (a : Option Addr) (len cap : Nat) (fs : List M.FileD) (h : M.Files w a len cap fs) (hok : ∀ f ∈ fs, M.fok f) :
    Calls Tryd.prog 11 #[.slice a len cap] w fun e w' => e = .returned (.string (M.packB fs)) ∧ Below w.heap.size w w' := by
  have hlm : len ≤ 9223372036854775807 := by obtain ⟨_, h1, h2, _⟩ := h; unfold maxLen at h2; omega
  have HFL : Hid (len = fs.length) := h.1
  have HF : Hid (M.Files w a len cap fs) := h
  have HOK : Hid (∀ f ∈ fs, M.fok f) := hok
  clear h hok
  by_cases h20 : 20 < len
  · have hE : Hid (M.packB fs = ⟨#[]⟩) := M.packB_no (by rw [← HFL.out]; omega)
    go_enter Tryd.func11, Tryd.ntmps11
    go_wp2
    go_ret
    exact ⟨by rw [hE.out]; rfl, Below.refl _ _⟩
  have d20 : decide (20 < (len : Int)) = false := decide_eq_false (by omega)
  go_enter Tryd.func11, Tryd.ntmps11
  go_wp2
  go_loopw [3] (fun i wr => ∃ k : Nat, i = .int .i64 k ∧ k ≤ len ∧ Hid (∀ j f, j < k → fs[j]? = some f → M.fileR f = true) ∧ Hid (Below w.heap.size w wr)) (fun i _ => len - (intOf i).toNat)
  case atStart => exact ⟨0, rfl, Nat.zero_le _, fun j f hj => absurd hj (Nat.not_lt_zero _), Below.refl _ _⟩
  case round =>
    obtain ⟨k, rfl, hk, HG, HBr⟩ := hrel
    by_cases hlt : k < len
    · have hfl := HFL.out
      obtain ⟨-, -, -, hfa⟩ := HF.out.below HBr.out
      obtain ⟨b, off, rfl, hat⟩ := hfa (by omega)
      obtain ⟨c0, c1, c2, c3, c4⟩ := hat k (by omega)
      have hfk := List.getElem?_eq_getElem (l := fs) (i := k) (by omega)
      generalize fs[k]'(by omega) = f at c0 c1 c2 c3 c4 hfk
      have HFK : Hid (fs[k]? = some f) := hfk
      have hC := sFile_any f wr (HOK.out f (List.mem_of_getElem? hfk))
      unfold M.fval at hC
      cases hr : M.fileR f
      · rw [hr] at hC
        have hE : Hid (M.packB fs = ⟨#[]⟩) := M.packB_bad hfk hr
        have HC : Hid (Calls Tryd.prog 23 #[.agg #[.string f.path, .bool f.dir, .int .i64 f.mode, .int .i64 f.time, .string f.data]] wr fun e w' => e = .returned (.bool false) ∧ Below wr.heap.size wr w') := hC
        clear hfk hat hfa hfl hC hr
        go_wp2_with fail
        refine HC.out.mono ?_
        rintro e w1 ⟨rfl, hb1⟩
        have HB1 : Hid (Below w.heap.size w w1) := M.s1' HBr.out hb1
        clear hb1
        go_wp2
        go_ret
        exact ⟨by rw [hE.out]; rfl, HB1.out⟩
      · rw [hr] at hC
        have HG2 : Hid (∀ j f, j < k + 1 → fs[j]? = some f → M.fileR f = true) := M.upto_next HG.out hfk hr
        have HC : Hid (Calls Tryd.prog 23 #[.agg #[.string f.path, .bool f.dir, .int .i64 f.mode, .int .i64 f.time, .string f.data]] wr fun e w' => e = .returned (.bool true) ∧ Below wr.heap.size wr w') := hC
        clear hfk hat hfa hfl hC hr
        go_wp2_with fail
        refine HC.out.mono ?_
        rintro e w1 ⟨rfl, hb1⟩
        have HB1 : Hid (Below w.heap.size w w1) := M.s1' HBr.out hb1
        clear hb1
        go_wp2
        go_roundw
        case rel => exact ⟨k + 1, by go_num, by omega, HG2, HB1⟩
        case measure => simp [intOf]; omega
    · have HA : Hid (∀ f ∈ fs, M.fileR f = true) := M.upto_all HG.out (by rw [← HFL.out]; omega)
      have HC : Hid (Calls Tryd.prog 24 #[.slice a len cap] wr fun e w' => e = .returned (.string (M.archB fs)) ∧ Below wr.heap.size wr w') := sLPack_any wr a len cap fs (HF.out.below HBr.out) HA.out (by omega)
      have HS : Hid (∀ y, y = M.archB fs → (y.size ≤ 20000 → M.packB fs = y) ∧ (20000 < y.size → M.packB fs = ⟨#[]⟩)) := fun y hy =>
        ⟨fun hh => by rw [hy] at hh ⊢; exact M.packB_yes (by rw [← HFL.out]; omega) HA.out hh, fun hh => M.packB_no (by rw [← hy]; omega)⟩
      have hys : (M.archB fs).size ≤ 1000000 := by
        unfold M.archB
        rw [ByteArray.size_append, M.zerosB_size, Lib.size_eq]
        show (M.entriesL fs).length + 1024 ≤ _
        have := M.entriesL_le (fs := fs) HA.out
        rw [← HFL.out] at this
        omega
      go_wp2_with fail
      refine HC.out.mono ?_
      rintro e w1 ⟨rfl, hb1⟩
      have HB1 : Hid (Below w.heap.size w w1) := M.s1' HBr.out hb1
      obtain ⟨y, hy⟩ : ∃ y, y = M.archB fs := ⟨_, rfl⟩
      have HY := HS.out y hy
      rw [← hy] at hys ⊢
      clear hb1 hy
      by_cases h2 : 20000 < y.size
      · have hE : Hid (M.packB fs = ⟨#[]⟩) := HY.2 h2
        clear HY
        go_wp2
        go_ret
        exact ⟨by rw [hE.out]; rfl, HB1.out⟩
      · have hE : Hid (M.packB fs = y) := HY.1 (by omega)
        clear HY
        go_wp2
        go_ret
        exact ⟨by rw [hE.out]; rfl, HB1.out⟩
end Go.Proofs.YtbmbcfnlpbbapahDoor
