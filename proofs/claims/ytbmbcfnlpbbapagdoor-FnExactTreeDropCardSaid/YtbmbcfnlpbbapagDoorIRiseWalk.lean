/-
  What filesRise of the program does: it tells whether all files are right, and rise by their paths.
-/
import Derived.Test.YtbmbcfnlpbbapagDoorFileRight
import Derived.Test.YtbmbcfnlpbbapagDoorSPlaceWalk
import Derived.Test.YtbmbcfnlpbbapagDoorWide
import Derived.WalkKit
import Derived.WalkSpells
import Derived.WalkLawsBesides
namespace Go.Proofs.YtbmbcfnlpbbapagDoor
open Go.RowKit

/-- The first k files are right and rise. -/
structure M.Rise (fs : List M.FileD) (k : Nat) : Prop where
  file : ∀ i (_ : i < k) (h : i < fs.length), M.fileR fs[i] = true
  rise : ∀ i (_ : i < k) (_ : 0 < i) (h : i < fs.length), M.ltB fs[i - 1].path fs[i].path
theorem M.Rise.zero (fs : List M.FileD) : M.Rise fs 0 := ⟨fun _ h => absurd h (Nat.not_lt_zero _), fun _ h => absurd h (Nat.not_lt_zero _)⟩
theorem M.Rise.next {fs : List M.FileD} {k : Nat} {f : M.FileD} (h : M.Rise fs k) (hk : fs[k]? = some f) (h1 : M.fileR f = true) (h2 : ∀ g, 0 < k → fs[k - 1]? = some g → M.ltB g.path f.path) : M.Rise fs (k + 1) := by
  obtain ⟨hlt, rfl⟩ := List.getElem?_eq_some_iff.1 hk
  refine ⟨fun i hi h' => ?_, fun i hi h0 h' => ?_⟩
  · by_cases e : i = k
    · subst e; exact h1
    · exact h.file i (by omega) h'
  · by_cases e : i = k
    · subst e; exact h2 _ h0 (List.getElem?_eq_getElem (by omega))
    · exact h.rise i (by omega) h0 h'
theorem M.Rise.fileAt {fs : List M.FileD} {k : Nat} {f : M.FileD} (h : M.Rise fs fs.length) (hk : fs[k]? = some f) : M.fileR f = true := by
  obtain ⟨hlt, rfl⟩ := List.getElem?_eq_some_iff.1 hk
  exact h.file k hlt hlt
theorem M.Rise.riseAt {fs : List M.FileD} {k : Nat} {f g : M.FileD} (h : M.Rise fs fs.length) (hk : fs[k + 1]? = some f) (hg : fs[k]? = some g) : M.ltB g.path f.path := by
  obtain ⟨hlt, rfl⟩ := List.getElem?_eq_some_iff.1 hk
  obtain ⟨_, rfl⟩ := List.getElem?_eq_some_iff.1 hg
  exact h.rise (k + 1) hlt (by omega) hlt

set_option maxRecDepth 100000 in
set_option maxHeartbeats 3200000 in
theorem iRise_any (w : World) (a : Option Addr) (len cap : Nat) (fs : List M.FileD) (h : M.Files w a len cap fs) (hok : ∀ f ∈ fs, M.fok f) (hm : M.ml w) :
    Calls Tryd.prog 29 #[.slice a len cap] w fun e w' => ∃ v : Bool, e = .returned (.bool v) ∧ (v = true ↔ M.Rise fs fs.length) ∧ Below w.heap.size w w' := by
  have hlm : len ≤ 9223372036854775807 := by obtain ⟨_, h1, h2, _⟩ := h; unfold maxLen at h2; omega
  have HFL : Hid (len = fs.length) := h.1
  have HF : Hid (M.Files w a len cap fs) := h
  have HOK : Hid (∀ f ∈ fs, M.fok f) := hok
  have HM : Hid (M.ml w) := hm
  clear h hok hm
  have NO : Hid (∀ (W : World), ¬ M.Rise fs fs.length → Below w.heap.size w W → ∃ v : Bool, Ending.returned (.bool false) = .returned (.bool v) ∧ (v = true ↔ M.Rise fs fs.length) ∧ Below w.heap.size w W) := fun W hn hb => ⟨false, rfl, ⟨fun h => by simp at h, fun h => absurd h hn⟩, hb⟩
  go_enter Tryd.func29, Tryd.ntmps29
  go_wp2
  go_loopw [7] (fun i wr => ∃ k : Nat, i = .int .i64 k ∧ k ≤ len ∧ Hid (M.Rise fs k) ∧ Hid (Below w.heap.size w wr)) (fun i _ => len - (intOf i).toNat)
  case atStart => exact ⟨0, rfl, Nat.zero_le _, M.Rise.zero fs, Below.refl _ _⟩
  case round =>
    obtain ⟨k, rfl, hk, HG, HBr⟩ := hrel
    by_cases hlt : k < len
    · have hfl := HFL.out
      obtain ⟨-, -, -, hfa⟩ := HF.out.below HBr.out
      obtain ⟨b, off, rfl, hat⟩ := hfa (by omega)
      have HAT : Hid (M.FilesAt wr b off fs) := hat
      obtain ⟨c0, c1, c2, c3, c4⟩ := hat k (by omega)
      have hfk := List.getElem?_eq_getElem (l := fs) (i := k) (by omega)
      generalize fs[k]'(by omega) = f at c0 c1 c2 c3 c4 hfk
      have HFK : Hid (fs[k]? = some f) := hfk
      have HKF : Hid (M.fok f) := HOK.out f (List.mem_of_getElem? hfk)
      clear hfk hat hfa hfl
      have HX : Hid (∀ x : M.Wd (wr.alloc (.cells #[.string f.path, .bool f.dir, .int .i64 f.mode, .int .i64 f.time, .string f.data] 31)), Below w.heap.size w x.val) := fun x => HBr.out.trans ((M.boxed_below x.bel).mono HBr.out.size)
      have hS : ∀ x : M.Wd (wr.alloc (.cells #[.string f.path, .bool f.dir, .int .i64 f.mode, .int .i64 f.time, .string f.data] 31)), Calls Tryd.prog 42 #[M.fval f] x.val fun e w' => e = .returned (.bool (M.fileR f)) ∧ Below x.val.heap.size x.val w' := fun x => iFile_any f x.val HKF.out (M.ml_below HM.out (HX.out x))
      unfold M.fval at hS
      have HS : Hid (∀ x : M.Wd (wr.alloc (.cells #[.string f.path, .bool f.dir, .int .i64 f.mode, .int .i64 f.time, .string f.data] 31)), Calls Tryd.prog 42 #[.agg #[.string f.path, .bool f.dir, .int .i64 f.mode, .int .i64 f.time, .string f.data]] x.val fun e w' => e = .returned (.bool (M.fileR f)) ∧ Below x.val.heap.size x.val w') := hS
      clear hS
      have q0 : ∀ x : M.Wd (wr.alloc (.cells #[.string f.path, .bool f.dir, .int .i64 f.mode, .int .i64 f.time, .string f.data] 31)), x.val.cell? ⟨wr.heap.size, 0, none⟩ = some (.string f.path) := M.Wd.cell (M.boxed (Below.refl _ _) 0 _ rfl)
      have q1 : ∀ x : M.Wd (wr.alloc (.cells #[.string f.path, .bool f.dir, .int .i64 f.mode, .int .i64 f.time, .string f.data] 31)), x.val.cell? ⟨wr.heap.size, 1, none⟩ = some (.bool f.dir) := M.Wd.cell (M.boxed (Below.refl _ _) 1 _ rfl)
      have q2 : ∀ x : M.Wd (wr.alloc (.cells #[.string f.path, .bool f.dir, .int .i64 f.mode, .int .i64 f.time, .string f.data] 31)), x.val.cell? ⟨wr.heap.size, 2, none⟩ = some (.int .i64 f.mode) := M.Wd.cell (M.boxed (Below.refl _ _) 2 _ rfl)
      have q3 : ∀ x : M.Wd (wr.alloc (.cells #[.string f.path, .bool f.dir, .int .i64 f.mode, .int .i64 f.time, .string f.data] 31)), x.val.cell? ⟨wr.heap.size, 3, none⟩ = some (.int .i64 f.time) := M.Wd.cell (M.boxed (Below.refl _ _) 3 _ rfl)
      have q4 : ∀ x : M.Wd (wr.alloc (.cells #[.string f.path, .bool f.dir, .int .i64 f.mode, .int .i64 f.time, .string f.data] 31)), x.val.cell? ⟨wr.heap.size, 4, none⟩ = some (.string f.data) := M.Wd.cell (M.boxed (Below.refl _ _) 4 _ rfl)
      cases hr : M.fileR f
      · rw [hr] at HS
        have HN : Hid (¬ M.Rise fs fs.length) := fun h => by have := h.fileAt HFK.out; rw [hr] at this; cases this
        clear hr
        go_wp2_with fail
        refine M.wp_region_wd (by kernel_rfl) (by kernel_rfl) (fun _ => ?_)
        repeat (first | go_big_quiet_skip | (go_big_quiet_want; go_big_quiet_op; first | go_big_quiet_on | (apply Exists.intro; refine ⟨fun x => ?_, ?_⟩; exact M.Wd.call x (HS.out x); go_big_quiet_on)))
        refine wpQuiet_nil ?_
        intro w2 hw'
        have HB2 : Hid (Below w.heap.size w w2) := by obtain ⟨x, rfl⟩ := hw'; exact HX.out x
        clear hw' c0 c1 c2 c3 c4 q0 q1 q2 q3 q4
        go_wp2
        go_ret
        exact NO.out _ HN.out HB2.out
      · rw [hr] at HS
        have HR : Hid (M.fileR f = true) := hr
        clear hr
        by_cases h0 : 0 < k
        case neg =>
          have HN : Hid (M.Rise fs (k + 1)) := HG.out.next HFK.out HR.out (fun _ h => absurd h h0)
          have d0 : decide (0 < k) = false := decide_eq_false h0
          go_wp2_with fail
          refine M.wp_region_wd (by kernel_rfl) (by kernel_rfl) (fun _ => ?_)
          repeat (first | go_big_quiet_skip | (go_big_quiet_want; go_big_quiet_op; first | go_big_quiet_on | (apply Exists.intro; refine ⟨fun x => ?_, ?_⟩; exact M.Wd.call x (HS.out x); go_big_quiet_on)))
          refine wpQuiet_nil ?_
          intro w2 hw'
          have HB2 : Hid (Below w.heap.size w w2) := by obtain ⟨x, rfl⟩ := hw'; exact HX.out x
          clear hw' c0 c1 c2 c3 c4 q0 q1 q2 q3 q4
          go_wp2
          go_roundw
          case rel => exact ⟨k + 1, by go_num, by omega, HN, HB2⟩
          case measure => simp [intOf]; omega
        obtain ⟨j, hj0⟩ : ∃ j, k = j + 1 := ⟨k - 1, by omega⟩
        have HJ : Hid (k = j + 1) := hj0
        have hj : (k : Int) - 1 = (j : Int) := by omega
        have hjl : (j : Int) < (len : Int) := by omega
        have d0 : decide (0 < k) = true := decide_eq_true h0
        have hjf : j < fs.length := by have := HFL.out; omega
        have cj := (HAT.out.below ((Below.refl _ wr).alloc (Nat.le_refl _) (.cells #[.string f.path, .bool f.dir, .int .i64 f.mode, .int .i64 f.time, .string f.data] 31)) j hjf).1
        have hgj := List.getElem?_eq_getElem (l := fs) (i := j) hjf
        generalize fs[j]'hjf = g at cj hgj
        have HGJ : Hid (fs[j]? = some g) := hgj
        have qj := M.Wd.cell cj
        clear hj0 hgj hjf cj h0
        by_cases hlt2 : M.ltB g.path f.path
        · have HN : Hid (M.Rise fs (k + 1)) := HG.out.next HFK.out HR.out (fun g' _ hg' => by
            rw [HJ.out, Nat.add_sub_cancel, HGJ.out] at hg'
            obtain rfl := Option.some.inj hg'
            exact hlt2)
          have hbl := M.less_yes hlt2
          clear hlt2
          go_wp2_with fail
          refine M.wp_region_wd (by kernel_rfl) (by kernel_rfl) (fun _ => ?_)
          repeat (first | go_big_quiet_skip | (go_big_quiet_want; go_big_quiet_op; first | go_big_quiet_on | (apply Exists.intro; refine ⟨fun x => ?_, ?_⟩; exact M.Wd.call x (HS.out x); go_big_quiet_on)))
          refine wpQuiet_nil ?_
          intro w2 hw'
          have HB2 : Hid (Below w.heap.size w w2) := by obtain ⟨x, rfl⟩ := hw'; exact HX.out x
          clear hw' c0 c1 c2 c3 c4 q0 q1 q2 q3 q4 qj hbl hj hjl
          go_wp2
          go_roundw
          case rel => exact ⟨k + 1, by go_num, by omega, HN, HB2⟩
          case measure => simp [intOf]; omega
        · have HN : Hid (¬ M.Rise fs fs.length) := fun h => hlt2 (h.riseAt (k := j) (by rw [← HJ.out]; exact HFK.out) HGJ.out)
          have hbl := M.less_no hlt2
          clear hlt2
          go_wp2_with fail
          refine M.wp_region_wd (by kernel_rfl) (by kernel_rfl) (fun _ => ?_)
          repeat (first | go_big_quiet_skip | (go_big_quiet_want; go_big_quiet_op; first | go_big_quiet_on | (apply Exists.intro; refine ⟨fun x => ?_, ?_⟩; exact M.Wd.call x (HS.out x); go_big_quiet_on)))
          refine wpQuiet_nil ?_
          intro w2 hw'
          have HB2 : Hid (Below w.heap.size w w2) := by obtain ⟨x, rfl⟩ := hw'; exact HX.out x
          clear hw' c0 c1 c2 c3 c4 q0 q1 q2 q3 q4 qj hbl hj hjl
          go_wp2
          go_ret
          exact NO.out _ HN.out HB2.out
    · have HT : Hid (M.Rise fs fs.length) := by
        have hfl := HFL.out
        have : k = fs.length := by omega
        subst this
        exact HG.out
      go_wp2
      go_ret
      exact ⟨true, rfl, ⟨fun _ => HT.out, fun _ => rfl⟩, HBr.out⟩
end Go.Proofs.YtbmbcfnlpbbapagDoor
