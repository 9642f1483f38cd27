/-
  What filesRise of the program does: it tells whether all files are right, and rise by their paths.
-/
import Derived.Test.YtephjmlcbpfnaaaGreatDoorPart9
import Derived.Test.YtephjmlcbpfnaaaGreatDoorPart13
import Derived.Test.YtephjmlcbpfnaaaGreatDoorWide
import Derived.Test.YtephjmlcbpfnaaaGreatDoorPart12
import Derived.WalkKit
import Derived.WalkSpells
import Derived.WalkLawsBesides
import Derived.Maps.OwnSet
namespace Go.Proofs.YtephjmlcbpfnaaaGreatDoor
open Go.RowKit

/-- The first k files are right and rise. -/
structure M.Rise (fs : List M.FileD) (k : Nat) : Prop where
  file : ∀ i (_ : i < k) (h : i < fs.length), M.fileR fs[i] = true
  rise : ∀ i (_ : i < k) (_ : 0 < i) (h : i < fs.length), M.ltB fs[i - 1].path fs[i].path
theorem M.Rise.zero (fs : List M.FileD) : M.Rise fs 0 := ⟨fun _ h => absurd h (Nat.not_lt_zero _), fun _ h => absurd h (Nat.not_lt_zero _)⟩
theorem M.Rise.next {fs : List M.FileD} {k : Nat} {f : M.FileD} (h : M.Rise fs k) (hk : fs[k]? = some f) (h1 : M.fileR f = true) (h2 : ∀ g, 0 < k → fs[k - 1]? = some g → M.ltB g.path f.path) : M.Rise fs (k + 1) := by
  obtain ⟨hlt, rfl⟩ := List.getElem?_eq_some_iff.1 hk
  refine ⟨fun i hi h' => ?_, fun i hi h0 h' => ?_⟩
  · by_cases e : i = k
    · subst e; exact h1
    · exact h.file i (by omega) h'
  · by_cases e : i = k
    · subst e; exact h2 _ h0 (List.getElem?_eq_getElem (by omega))
    · exact h.rise i (by omega) h0 h'
theorem M.Rise.fileAt {fs : List M.FileD} {k : Nat} {f : M.FileD} (h : M.Rise fs fs.length) (hk : fs[k]? = some f) : M.fileR f = true := by
  obtain ⟨hlt, rfl⟩ := List.getElem?_eq_some_iff.1 hk
  exact h.file k hlt hlt
theorem M.Rise.riseAt {fs : List M.FileD} {k : Nat} {f g : M.FileD} (h : M.Rise fs fs.length) (hk : fs[k + 1]? = some f) (hg : fs[k]? = some g) : M.ltB g.path f.path := by
  obtain ⟨hlt, rfl⟩ := List.getElem?_eq_some_iff.1 hk
  obtain ⟨_, rfl⟩ := List.getElem?_eq_some_iff.1 hg
  exact h.rise (k + 1) hlt (by omega) hlt

set_option maxRecDepth 100000 in
set_option maxHeartbeats 3200000 in
theorem iRise_any (w : World) (a : Option Addr) (len cap : Nat) (fs : List M.FileD) (h : M.Files w a len cap fs) (hok : ∀ f ∈ fs, M.fok f) (hm : M.ml w) :
    Calls Tryz.prog 57 #[.slice a len cap] w fun e w' => ∃ v : Bool, e = .returned (.bool v) ∧ (v = true ↔ M.Rise fs fs.length) ∧ Below w.heap.size w w' := by
  have hlm : len ≤ 9223372036854775807 := by obtain ⟨_, h1, h2, _⟩ := h; unfold maxLen at h2; omega
  have HFL : Hid (len = fs.length) := h.1
  have HF : Hid (M.Files w a len cap fs) := h
  have HOK : Hid (∀ f ∈ fs, M.fok f) := hok
  have HM : Hid (M.ml w) := hm
  clear h hok hm
  have NO : Hid (∀ (W : World), ¬ M.Rise fs fs.length → Below w.heap.size w W → ∃ v : Bool, Ending.returned (.bool false) = .returned (.bool v) ∧ (v = true ↔ M.Rise fs fs.length) ∧ Below w.heap.size w W) := fun W hn hb => ⟨false, rfl, ⟨fun h => by simp at h, fun h => absurd h hn⟩, hb⟩
  go_enter Tryz.func57, Tryz.ntmps57
  go_wp2
  go_loopw [7] (fun i wr => ∃ k : Nat, i = .int .i64 k ∧ k ≤ len ∧ Hid (M.Rise fs k) ∧ Hid (Below w.heap.size w wr)) (fun i _ => len - (intOf i).toNat)
  case atStart => exact ⟨0, rfl, Nat.zero_le _, M.Rise.zero fs, Below.refl _ _⟩
  case round =>
    obtain ⟨k, rfl, hk, HG, HBr⟩ := hrel
    by_cases hlt : k < len
    · have hfl := HFL.out
      obtain ⟨-, -, -, hfa⟩ := HF.out.below HBr.out
      obtain ⟨b, off, rfl, hat⟩ := hfa (by omega)
      have HAT : Hid (M.FilesAt wr b off fs) := hat
      obtain ⟨c0, c1, c2, c3, c4⟩ := hat k (by omega)
      have hfk := List.getElem?_eq_getElem (l := fs) (i := k) (by omega)
      generalize fs[k]'(by omega) = f at c0 c1 c2 c3 c4 hfk
      have HFK : Hid (fs[k]? = some f) := hfk
      have HKF : Hid (M.fok f) := HOK.out f (List.mem_of_getElem? hfk)
      clear hfk hat hfa hfl
      have HX : Hid (∀ x : M.Wd (wr.alloc (.cells #[.string f.path, .bool f.dir, .int .i64 f.mode, .int .i64 f.time, .string f.data] 54)), Below w.heap.size w x.val) := fun x => HBr.out.trans ((M.boxed_below x.bel).mono HBr.out.size)
      have hS : ∀ x : M.Wd (wr.alloc (.cells #[.string f.path, .bool f.dir, .int .i64 f.mode, .int .i64 f.time, .string f.data] 54)), Calls Tryz.prog 72 #[M.fval f] x.val fun e w' => e = .returned (.bool (M.fileR f)) ∧ Below x.val.heap.size x.val w' := fun x => iFile_any f x.val HKF.out (M.ml_below HM.out (HX.out x))
      unfold M.fval at hS
      have HS : Hid (∀ x : M.Wd (wr.alloc (.cells #[.string f.path, .bool f.dir, .int .i64 f.mode, .int .i64 f.time, .string f.data] 54)), Calls Tryz.prog 72 #[.agg #[.string f.path, .bool f.dir, .int .i64 f.mode, .int .i64 f.time, .string f.data]] x.val fun e w' => e = .returned (.bool (M.fileR f)) ∧ Below x.val.heap.size x.val w') := hS
      clear hS
      have q0 : ∀ x : M.Wd (wr.alloc (.cells #[.string f.path, .bool f.dir, .int .i64 f.mode, .int .i64 f.time, .string f.data] 54)), x.val.cell? ⟨wr.heap.size, 0, none⟩ = some (.string f.path) := M.Wd.cell (M.boxed (Below.refl _ _) 0 _ rfl)
      have q1 : ∀ x : M.Wd (wr.alloc (.cells #[.string f.path, .bool f.dir, .int .i64 f.mode, .int .i64 f.time, .string f.data] 54)), x.val.cell? ⟨wr.heap.size, 1, none⟩ = some (.bool f.dir) := M.Wd.cell (M.boxed (Below.refl _ _) 1 _ rfl)
      have q2 : ∀ x : M.Wd (wr.alloc (.cells #[.string f.path, .bool f.dir, .int .i64 f.mode, .int .i64 f.time, .string f.data] 54)), x.val.cell? ⟨wr.heap.size, 2, none⟩ = some (.int .i64 f.mode) := M.Wd.cell (M.boxed (Below.refl _ _) 2 _ rfl)
      have q3 : ∀ x : M.Wd (wr.alloc (.cells #[.string f.path, .bool f.dir, .int .i64 f.mode, .int .i64 f.time, .string f.data] 54)), x.val.cell? ⟨wr.heap.size, 3, none⟩ = some (.int .i64 f.time) := M.Wd.cell (M.boxed (Below.refl _ _) 3 _ rfl)
      have q4 : ∀ x : M.Wd (wr.alloc (.cells #[.string f.path, .bool f.dir, .int .i64 f.mode, .int .i64 f.time, .string f.data] 54)), x.val.cell? ⟨wr.heap.size, 4, none⟩ = some (.string f.data) := M.Wd.cell (M.boxed (Below.refl _ _) 4 _ rfl)
      cases hr : M.fileR f
      · rw [hr] at HS
        have HN : Hid (¬ M.Rise fs fs.length) := fun h => by have := h.fileAt HFK.out; rw [hr] at this; cases this
        clear hr
        go_wp2_with fail
        refine M.wp_region_wd (by kernel_rfl) (by kernel_rfl) (fun _ => ?_)
        repeat (first | go_big_quiet_skip | (go_big_quiet_want; go_big_quiet_op; first | go_big_quiet_on | (apply Exists.intro; refine ⟨fun x => ?_, ?_⟩; exact M.Wd.call x (HS.out x); go_big_quiet_on)))
        refine wpQuiet_nil ?_
        intro w2 hw'
        have HB2 : Hid (Below w.heap.size w w2) := by obtain ⟨x, rfl⟩ := hw'; exact HX.out x
        clear hw' c0 c1 c2 c3 c4 q0 q1 q2 q3 q4
        go_wp2
        go_ret
        exact NO.out _ HN.out HB2.out
      · rw [hr] at HS
        have HR : Hid (M.fileR f = true) := hr
        clear hr
        by_cases h0 : 0 < k
        case neg =>
          have HN : Hid (M.Rise fs (k + 1)) := HG.out.next HFK.out HR.out (fun _ h => absurd h h0)
          have d0 : decide (0 < k) = false := decide_eq_false h0
          go_wp2_with fail
          refine M.wp_region_wd (by kernel_rfl) (by kernel_rfl) (fun _ => ?_)
          repeat (first | go_big_quiet_skip | (go_big_quiet_want; go_big_quiet_op; first | go_big_quiet_on | (apply Exists.intro; refine ⟨fun x => ?_, ?_⟩; exact M.Wd.call x (HS.out x); go_big_quiet_on)))
          refine wpQuiet_nil ?_
          intro w2 hw'
          have HB2 : Hid (Below w.heap.size w w2) := by obtain ⟨x, rfl⟩ := hw'; exact HX.out x
          clear hw' c0 c1 c2 c3 c4 q0 q1 q2 q3 q4
          go_wp2
          go_roundw
          case rel => exact ⟨k + 1, by go_num, by omega, HN, HB2⟩
          case measure => simp [intOf]; omega
        obtain ⟨j, hj0⟩ : ∃ j, k = j + 1 := ⟨k - 1, by omega⟩
        have HJ : Hid (k = j + 1) := hj0
        have hj : (k : Int) - 1 = (j : Int) := by omega
        have hjl : (j : Int) < (len : Int) := by omega
        have d0 : decide (0 < k) = true := decide_eq_true h0
        have hjf : j < fs.length := by have := HFL.out; omega
        have cj := (HAT.out.below ((Below.refl _ wr).alloc (Nat.le_refl _) (.cells #[.string f.path, .bool f.dir, .int .i64 f.mode, .int .i64 f.time, .string f.data] 54)) j hjf).1
        have hgj := List.getElem?_eq_getElem (l := fs) (i := j) hjf
        generalize fs[j]'hjf = g at cj hgj
        have HGJ : Hid (fs[j]? = some g) := hgj
        have qj := M.Wd.cell cj
        clear hj0 hgj hjf cj h0
        by_cases hlt2 : M.ltB g.path f.path
        · have HN : Hid (M.Rise fs (k + 1)) := HG.out.next HFK.out HR.out (fun g' _ hg' => by
            rw [HJ.out, Nat.add_sub_cancel, HGJ.out] at hg'
            obtain rfl := Option.some.inj hg'
            exact hlt2)
          have hbl := M.less_yes hlt2
          clear hlt2
          go_wp2_with fail
          refine M.wp_region_wd (by kernel_rfl) (by kernel_rfl) (fun _ => ?_)
          repeat (first | go_big_quiet_skip | (go_big_quiet_want; go_big_quiet_op; first | go_big_quiet_on | (apply Exists.intro; refine ⟨fun x => ?_, ?_⟩; exact M.Wd.call x (HS.out x); go_big_quiet_on)))
          refine wpQuiet_nil ?_
          intro w2 hw'
          have HB2 : Hid (Below w.heap.size w w2) := by obtain ⟨x, rfl⟩ := hw'; exact HX.out x
          clear hw' c0 c1 c2 c3 c4 q0 q1 q2 q3 q4 qj hbl hj hjl
          go_wp2
          go_roundw
          case rel => exact ⟨k + 1, by go_num, by omega, HN, HB2⟩
          case measure => simp [intOf]; omega
        · have HN : Hid (¬ M.Rise fs fs.length) := fun h => hlt2 (h.riseAt (k := j) (by rw [← HJ.out]; exact HFK.out) HGJ.out)
          have hbl := M.less_no hlt2
          clear hlt2
          go_wp2_with fail
          refine M.wp_region_wd (by kernel_rfl) (by kernel_rfl) (fun _ => ?_)
          repeat (first | go_big_quiet_skip | (go_big_quiet_want; go_big_quiet_op; first | go_big_quiet_on | (apply Exists.intro; refine ⟨fun x => ?_, ?_⟩; exact M.Wd.call x (HS.out x); go_big_quiet_on)))
          refine wpQuiet_nil ?_
          intro w2 hw'
          have HB2 : Hid (Below w.heap.size w w2) := by obtain ⟨x, rfl⟩ := hw'; exact HX.out x
          clear hw' c0 c1 c2 c3 c4 q0 q1 q2 q3 q4 qj hbl hj hjl
          go_wp2
          go_ret
          exact NO.out _ HN.out HB2.out
    · have HT : Hid (M.Rise fs fs.length) := by
        have hfl := HFL.out
        have : k = fs.length := by omega
        subst this
        exact HG.out
      go_wp2
      go_ret
      exact ⟨true, rfl, ⟨fun _ => HT.out, fun _ => rfl⟩, HBr.out⟩
end Go.Proofs.YtephjmlcbpfnaaaGreatDoor

/-
  Right deltas, with no word of the program; the set of the paths that a delta touches.
-/
namespace Go.Proofs.YtephjmlcbpfnaaaGreatDoor
open Go.RowKit Go.Maps

/-- The first k texts are paths and rise. -/
structure M.PRise (ss : List ByteArray) (k : Nat) : Prop where
  path : ∀ i (_ : i < k) (h : i < ss.length), M.pathR ss[i] = true
  rise : ∀ i (_ : i < k) (_ : 0 < i) (h : i < ss.length), M.ltB ss[i - 1] ss[i]
theorem M.PRise.zero (ss : List ByteArray) : M.PRise ss 0 := ⟨fun _ h => absurd h (Nat.not_lt_zero _), fun _ h => absurd h (Nat.not_lt_zero _)⟩
theorem M.PRise.next {ss : List ByteArray} {k : Nat} {s : ByteArray} (h : M.PRise ss k) (hk : ss[k]? = some s) (h1 : M.pathR s = true) (h2 : ∀ g, 0 < k → ss[k - 1]? = some g → M.ltB g s) : M.PRise ss (k + 1) := by
  obtain ⟨hlt, rfl⟩ := List.getElem?_eq_some_iff.1 hk
  refine ⟨fun i hi h' => ?_, fun i hi h0 h' => ?_⟩
  · by_cases e : i = k
    · subst e; exact h1
    · exact h.path i (by omega) h'
  · by_cases e : i = k
    · subst e; exact h2 _ h0 (List.getElem?_eq_getElem (by omega))
    · exact h.rise i (by omega) h0 h'
theorem M.PRise.pathAt {ss : List ByteArray} {k : Nat} {s : ByteArray} (h : M.PRise ss ss.length) (hk : ss[k]? = some s) : M.pathR s = true := by
  obtain ⟨hlt, rfl⟩ := List.getElem?_eq_some_iff.1 hk
  exact h.path k hlt hlt
theorem M.PRise.riseAt {ss : List ByteArray} {k : Nat} {f g : ByteArray} (h : M.PRise ss ss.length) (hk : ss[k + 1]? = some f) (hg : ss[k]? = some g) : M.ltB g f := by
  obtain ⟨hlt, rfl⟩ := List.getElem?_eq_some_iff.1 hk
  obtain ⟨_, rfl⟩ := List.getElem?_eq_some_iff.1 hg
  exact h.rise (k + 1) hlt (by omega) hlt
theorem M.PRise.pair {ss : List ByteArray} (h : M.PRise ss ss.length) : ss.Pairwise M.ltB := by
  rw [List.pairwise_iff_getElem]
  intro i j hi hj hij
  induction j with
  | zero => omega
  | succ j ih =>
    have h1 := h.rise (j + 1) hj (by omega) hj
    simp only [Nat.add_sub_cancel] at h1
    by_cases e : i = j
    · subst e; exact h1
    · exact M.ltB_trans (ih (by omega) (by omega)) h1
theorem M.Rise.pair {fs : List M.FileD} (h : M.Rise fs fs.length) : fs.Pairwise fun f g => M.ltB f.path g.path := by
  rw [List.pairwise_iff_getElem]
  intro i j hi hj hij
  exact M.rise_of_adj (fun i h0 h' => h.rise i h' h0 h') i j hij hj
theorem M.ltB_ne {a b : ByteArray} (h : M.ltB a b) : a ≠ b := fun e => by subst e; exact M.ltB_irrefl _ h
/-- A right delta. -/
structure M.DeltaR (ss : List ByteArray) (fs : List M.FileD) : Prop where
  len1 : ss.length ≤ 40
  len2 : fs.length ≤ 40
  drops : M.PRise ss ss.length
  puts : M.Rise fs fs.length
  apart : ∀ s ∈ ss, ∀ f ∈ fs, f.path ≠ s

/-- The set of paths. -/
def M.pset (l : List ByteArray) : DataW Unit := setOf (.agg []) (l.map M.key)
theorem M.pset_snoc (l : List ByteArray) (s : ByteArray) : M.pset (l ++ [s]) = (M.pset l).put (M.key s) (.agg []) := by unfold M.pset; rw [List.map_append]; exact setOf_snoc _ _ _
theorem M.key_same (p q : ByteArray) : (M.key p).sameKey (M.key q) = true ↔ p = q := by
  constructor
  · intro h
    by_cases e : M.key p = M.key q
    · exact M.key_inj e
    · rw [sameKey_ne e] at h; cases h
  · rintro rfl; exact WideAt.sameKey_self (M.key_lit _)
theorem M.pset_has (l : List ByteArray) (p : ByteArray) : has (M.pset l) (M.key p) = true ↔ p ∈ l := by
  unfold M.pset
  rw [has_setOf _ _ _ (fun x hx => by obtain ⟨s, _, rfl⟩ := List.mem_map.1 hx; exact M.key_lit s), List.any_map, List.any_eq_true]
  constructor
  · rintro ⟨s, hs, h⟩
    rw [← (M.key_same s p).1 h]; exact hs
  · intro h
    exact ⟨p, h, (M.key_same p p).2 rfl⟩
theorem M.add_le : ∀ (xs L : List Lit), (xs.foldl addKey L).length ≤ L.length + xs.length
  | [], L => by simp
  | x :: xs, L => by
    rw [List.foldl_cons]
    have h := M.add_le xs (addKey L x)
    have h2 : (addKey L x).length ≤ L.length + 1 := by unfold addKey; split <;> simp
    rw [List.length_cons]; omega
theorem M.add_all : ∀ (xs L : List ByteArray), (∀ x ∈ xs, x ∉ L) → xs.Pairwise (fun a b => a ≠ b) → (xs.map M.key).foldl addKey (L.map M.key) = (L ++ xs).map M.key
  | [], L, _, _ => by simp
  | x :: xs, L, h, hp => by
    rw [List.map_cons, List.foldl_cons]
    have hx : (L.map M.key).any (fun y => y.sameKey (M.key x)) = false := by
      rw [List.any_map, List.any_eq_false]
      intro y hy hs
      have := (M.key_same y x).1 hs
      subst this
      exact h y (List.mem_cons_self ..) hy
    have e : addKey (L.map M.key) (M.key x) = (L ++ [x]).map M.key := by unfold addKey; rw [hx]; simp
    rw [e, M.add_all xs (L ++ [x]) (fun y hy hm => ?_) (List.pairwise_cons.1 hp).2]
    · simp
    · rcases List.mem_append.1 hm with h1 | h1
      · exact h y (List.mem_cons_of_mem _ hy) h1
      · rw [List.mem_singleton] at h1
        exact (List.pairwise_cons.1 hp).1 y hy h1.symm
theorem M.add_lt : ∀ (xs L : List ByteArray), (∃ x ∈ xs, x ∈ L) → ((xs.map M.key).foldl addKey (L.map M.key)).length < L.length + xs.length
  | [], L, h => by obtain ⟨x, hx, _⟩ := h; cases hx
  | x :: xs, L, h => by
    rw [List.map_cons, List.foldl_cons]
    by_cases hx : x ∈ L
    · have e : addKey (L.map M.key) (M.key x) = L.map M.key := by
        unfold addKey
        rw [if_pos]
        rw [List.any_map, List.any_eq_true]
        exact ⟨x, hx, (M.key_same x x).2 rfl⟩
      rw [e]
      have := M.add_le (xs.map M.key) (L.map M.key)
      simp at this ⊢
      omega
    · have e : addKey (L.map M.key) (M.key x) = (L ++ [x]).map M.key := by
        unfold addKey
        rw [if_neg]
        · simp
        · intro hs
          rw [List.any_map, List.any_eq_true] at hs
          obtain ⟨y, hy, h1⟩ := hs
          rw [← (M.key_same y x).1 h1] at hx
          exact hx hy
      rw [e]
      have h' : ∃ y ∈ xs, y ∈ L ++ [x] := by
        obtain ⟨y, hy, hyL⟩ := h
        rcases List.mem_cons.1 hy with rfl | hy
        · exact absurd hyL hx
        · exact ⟨y, hy, List.mem_append_left _ hyL⟩
      have := M.add_lt xs (L ++ [x]) h'
      simp at this ⊢
      omega
/-- As many different ones as there are in both lists: just where they have none in common. -/
theorem M.pset_size {ss ts : List ByteArray} (h1 : ss.Pairwise fun a b => a ≠ b) (h2 : ts.Pairwise fun a b => a ≠ b) : Maps.size (M.pset (ss ++ ts)) = ss.length + ts.length ↔ ∀ s ∈ ss, ∀ t ∈ ts, t ≠ s := by
  have e : Maps.size (M.pset (ss ++ ts)) = ((ts.map M.key).foldl addKey (ss.map M.key)).length := by
    unfold M.pset
    rw [size_setOf _ _ (fun x hx => by obtain ⟨s, _, rfl⟩ := List.mem_map.1 hx; exact M.key_lit s), List.map_append, List.foldl_append]
    have := M.add_all ss [] (fun _ _ h => by cases h) h1
    simp only [List.map_nil, List.nil_append] at this
    rw [this]
  rw [e]
  constructor
  · intro h s hs t ht e2
    subst e2
    have := M.add_lt ts ss ⟨t, ht, hs⟩
    omega
  · intro h
    rw [M.add_all ts ss (fun x hx hm => h x hm x hx rfl) h2]
    simp
end Go.Proofs.YtephjmlcbpfnaaaGreatDoor

/-
  What l04Files and DeltaRight of the specification do.
-/
namespace Go.Proofs.YtephjmlcbpfnaaaGreatDoor
open Go.RowKit

theorem M.hidf {p : Prop} (h : p) : Hid p := h
theorem M.sf {a w v : World} (h : Below a.heap.size a w) (h' : Below w.heap.size w v) : Below a.heap.size a v := h.trans (h'.mono h.size)

set_option maxRecDepth 100000 in
set_option maxHeartbeats 3200000 in
theorem sL04_any (w : World) (a : Option Addr) (len cap : Nat) (fs : List M.FileD) (h : M.Files w a len cap fs) (hok : ∀ f ∈ fs, M.fok f) :
    Calls Tryz.prog 48 #[.slice a len cap] w fun e w' => ∃ v : Bool, e = .returned (.bool v) ∧ (v = true ↔ M.Rise fs fs.length) ∧ Below w.heap.size w w' := by
  have hlm : len ≤ 9223372036854775807 := by obtain ⟨_, h1, h2, _⟩ := h; unfold maxLen at h2; omega
  have HFL : Hid (len = fs.length) := h.1
  have HF : Hid (M.Files w a len cap fs) := h
  have HOK : Hid (∀ f ∈ fs, M.fok f) := hok
  clear h hok
  have NO : Hid (∀ (W : World), ¬ M.Rise fs fs.length → Below w.heap.size w W → ∃ v : Bool, Ending.returned (.bool false) = .returned (.bool v) ∧ (v = true ↔ M.Rise fs fs.length) ∧ Below w.heap.size w W) := fun W hn hb => ⟨false, rfl, ⟨fun h => by simp at h, fun h => absurd h hn⟩, hb⟩
  go_enter Tryz.func48, Tryz.ntmps48
  go_wp2
  go_loopw [3] (fun i wr => ∃ k : Nat, i = .int .i64 k ∧ k ≤ len ∧ Hid (M.Rise fs k) ∧ Hid (Below w.heap.size w wr)) (fun i _ => len - (intOf i).toNat)
  case atStart => exact ⟨0, rfl, Nat.zero_le _, M.Rise.zero fs, Below.refl _ _⟩
  case round =>
    obtain ⟨k, rfl, hk, HG, HBr⟩ := hrel
    by_cases hlt : k < len
    · have hfl := HFL.out
      obtain ⟨-, -, -, hfa⟩ := HF.out.below HBr.out
      obtain ⟨b, off, rfl, hat⟩ := hfa (by omega)
      have HAT : Hid (M.FilesAt wr b off fs) := hat
      obtain ⟨c0, c1, c2, c3, c4⟩ := hat k (by omega)
      have hfk := List.getElem?_eq_getElem (l := fs) (i := k) (by omega)
      generalize fs[k]'(by omega) = f at c0 c1 c2 c3 c4 hfk
      have HFK : Hid (fs[k]? = some f) := hfk
      have HKF : Hid (M.fok f) := HOK.out f (List.mem_of_getElem? hfk)
      clear hfk hat hfa hfl
      have HX : Hid (∀ x : M.Wd wr, Below w.heap.size w x.val) := fun x => M.sf HBr.out x.bel
      have hS : ∀ x : M.Wd wr, Calls Tryz.prog 85 #[M.fval f] x.val fun e w' => e = .returned (.bool (M.fileR f)) ∧ Below x.val.heap.size x.val w' := fun x => sFile_any f x.val HKF.out
      unfold M.fval at hS
      have HS : Hid (∀ x : M.Wd wr, Calls Tryz.prog 85 #[.agg #[.string f.path, .bool f.dir, .int .i64 f.mode, .int .i64 f.time, .string f.data]] x.val fun e w' => e = .returned (.bool (M.fileR f)) ∧ Below x.val.heap.size x.val w') := hS
      clear hS
      have q0 := M.Wd.cell c0
      have q1 := M.Wd.cell c1
      have q2 := M.Wd.cell c2
      have q3 := M.Wd.cell c3
      have q4 := M.Wd.cell c4
      cases hr : M.fileR f
      · rw [hr] at HS
        have HN : Hid (¬ M.Rise fs fs.length) := fun h => by have := h.fileAt HFK.out; rw [hr] at this; cases this
        clear hr
        go_wp2_with fail
        refine M.wp_region_wd (by kernel_rfl) (by kernel_rfl) (fun _ => ?_)
        repeat (first | go_big_quiet_skip | (go_big_quiet_want; go_big_quiet_op; first | go_big_quiet_on | (apply Exists.intro; refine ⟨fun x => ?_, ?_⟩; exact M.Wd.call x (HS.out x); go_big_quiet_on)))
        refine wpQuiet_nil ?_
        intro w2 hw'
        have HB2 : Hid (Below w.heap.size w w2) := by obtain ⟨x, rfl⟩ := hw'; exact HX.out x
        clear hw' c0 c1 c2 c3 c4 q0 q1 q2 q3 q4
        go_wp2
        go_ret
        exact NO.out _ HN.out HB2.out
      · rw [hr] at HS
        have HR : Hid (M.fileR f = true) := hr
        clear hr
        by_cases h0 : 0 < k
        case neg =>
          have HN : Hid (M.Rise fs (k + 1)) := HG.out.next HFK.out HR.out (fun _ h => absurd h h0)
          have d0 : decide (0 < k) = false := decide_eq_false h0
          go_wp2_with fail
          refine M.wp_region_wd (by kernel_rfl) (by kernel_rfl) (fun _ => ?_)
          repeat (first | go_big_quiet_skip | (go_big_quiet_want; go_big_quiet_op; first | go_big_quiet_on | (apply Exists.intro; refine ⟨fun x => ?_, ?_⟩; exact M.Wd.call x (HS.out x); go_big_quiet_on)))
          refine wpQuiet_nil ?_
          intro w2 hw'
          have HB2 : Hid (Below w.heap.size w w2) := by obtain ⟨x, rfl⟩ := hw'; exact HX.out x
          clear hw' c0 c1 c2 c3 c4 q0 q1 q2 q3 q4
          go_wp2
          go_roundw
          case rel => exact ⟨k + 1, by go_num, by omega, HN, HB2⟩
          case measure => simp [intOf]; omega
        obtain ⟨j, hj0⟩ : ∃ j, k = j + 1 := ⟨k - 1, by omega⟩
        have HJ : Hid (k = j + 1) := hj0
        have hj : (k : Int) - 1 = (j : Int) := by omega
        have hjl : (j : Int) < (len : Int) := by omega
        have d0 : decide (0 < k) = true := decide_eq_true h0
        have hjf : j < fs.length := by have := HFL.out; omega
        have cj := (HAT.out j hjf).1
        have hgj := List.getElem?_eq_getElem (l := fs) (i := j) hjf
        generalize fs[j]'hjf = g at cj hgj
        have HGJ : Hid (fs[j]? = some g) := hgj
        have qj := M.Wd.cell cj
        clear hj0 hgj hjf cj h0
        by_cases hlt2 : M.ltB g.path f.path
        · have HN : Hid (M.Rise fs (k + 1)) := HG.out.next HFK.out HR.out (fun g' _ hg' => by
            rw [HJ.out, Nat.add_sub_cancel, HGJ.out] at hg'
            obtain rfl := Option.some.inj hg'
            exact hlt2)
          have hbl := M.less_yes hlt2
          clear hlt2
          go_wp2_with fail
          refine M.wp_region_wd (by kernel_rfl) (by kernel_rfl) (fun _ => ?_)
          repeat (first | go_big_quiet_skip | (go_big_quiet_want; go_big_quiet_op; first | go_big_quiet_on | (apply Exists.intro; refine ⟨fun x => ?_, ?_⟩; exact M.Wd.call x (HS.out x); go_big_quiet_on)))
          refine wpQuiet_nil ?_
          intro w2 hw'
          have HB2 : Hid (Below w.heap.size w w2) := by obtain ⟨x, rfl⟩ := hw'; exact HX.out x
          clear hw' c0 c1 c2 c3 c4 q0 q1 q2 q3 q4 qj hbl hj hjl
          go_wp2
          go_roundw
          case rel => exact ⟨k + 1, by go_num, by omega, HN, HB2⟩
          case measure => simp [intOf]; omega
        · have HN : Hid (¬ M.Rise fs fs.length) := fun h => hlt2 (h.riseAt (k := j) (by rw [← HJ.out]; exact HFK.out) HGJ.out)
          have hbl := M.less_no hlt2
          clear hlt2
          go_wp2_with fail
          refine M.wp_region_wd (by kernel_rfl) (by kernel_rfl) (fun _ => ?_)
          repeat (first | go_big_quiet_skip | (go_big_quiet_want; go_big_quiet_op; first | go_big_quiet_on | (apply Exists.intro; refine ⟨fun x => ?_, ?_⟩; exact M.Wd.call x (HS.out x); go_big_quiet_on)))
          refine wpQuiet_nil ?_
          intro w2 hw'
          have HB2 : Hid (Below w.heap.size w w2) := by obtain ⟨x, rfl⟩ := hw'; exact HX.out x
          clear hw' c0 c1 c2 c3 c4 q0 q1 q2 q3 q4 qj hbl hj hjl
          go_wp2
          go_ret
          exact NO.out _ HN.out HB2.out
    · have HT : Hid (M.Rise fs fs.length) := by
        have hfl := HFL.out
        have : k = fs.length := by omega
        subst this
        exact HG.out
      go_wp2
      go_ret
      exact ⟨true, rfl, ⟨fun _ => HT.out, fun _ => rfl⟩, HBr.out⟩

theorem M.there_iff {fs : List M.FileD} {p : ByteArray} {k : Nat} (hk : M.Place fs p k) (hr : M.Rise fs fs.length) : M.There fs p k ↔ ∃ f ∈ fs, f.path = p := by
  constructor
  · rintro ⟨h, e⟩
    exact ⟨fs[k], List.getElem_mem h, e⟩
  · rintro ⟨f, hf, e⟩
    obtain ⟨j, hj, rfl⟩ := List.mem_iff_getElem.1 hf
    have hj' : M.There fs p j := ⟨hj, e⟩
    rw [hk.eq_of_there (fun i j hij h' => M.rise_of_adj (fun i h0 h' => hr.rise i h' h0 h') i j hij h') hj']
    exact hj'
theorem M.dr_next {ss : List ByteArray} {fs : List M.FileD} {k : Nat} {s : ByteArray} (h : ∀ j (_ : j < k) (h : j < ss.length), ∀ f ∈ fs, f.path ≠ ss[j]) (hk : ss[k]? = some s) (hs : ∀ f ∈ fs, f.path ≠ s) : ∀ j (_ : j < k + 1) (h : j < ss.length), ∀ f ∈ fs, f.path ≠ ss[j] := by
  intro j hj hjl f hf
  by_cases e : j = k
  · subst e
    obtain ⟨_, hx⟩ := List.getElem?_eq_some_iff.1 hk
    rw [hx]; exact hs f hf
  · exact h j (by omega) hjl f hf
theorem M.place_ex (fs : List M.FileD) (p : ByteArray) : ∃ k, M.Place fs p k := by
  have h : ∀ n, n ≤ fs.length → ∃ k, k ≤ n ∧ (∀ j (_ : j < k) (h' : j < fs.length), M.ltB fs[j].path p) ∧ (∀ (_ : k < n) (h : k < fs.length), ¬ M.ltB fs[k].path p) := by
    intro n
    induction n with
    | zero => intro _; exact ⟨0, Nat.le_refl _, fun _ h => absurd h (Nat.not_lt_zero _), fun h => absurd h (Nat.lt_irrefl _)⟩
    | succ n ih =>
      intro hn
      obtain ⟨k, hk, hlo, hhi⟩ := ih (by omega)
      by_cases e : k < n
      · exact ⟨k, by omega, hlo, fun _ h => hhi e h⟩
      · have ek : k = n := by omega
        subst ek
        by_cases hl : M.ltB (fs[k]'(by omega)).path p
        · refine ⟨k + 1, Nat.le_refl _, fun j hj h' => ?_, fun h => absurd h (Nat.lt_irrefl _)⟩
          by_cases ej : j = k
          · subst ej; exact hl
          · exact hlo j (by omega) h'
        · exact ⟨k, by omega, hlo, fun _ h => hl⟩
  obtain ⟨k, hk, hlo, hhi⟩ := h fs.length (Nat.le_refl _)
  exact ⟨k, hk, hlo, fun h => hhi h h⟩
theorem M.Place.uniq {fs : List M.FileD} {p : ByteArray} {k j : Nat} (hk : M.Place fs p k) (hj : M.Place fs p j) : k = j := by
  rcases Nat.lt_trichotomy k j with h | h | h
  · have hl : k < fs.length := Nat.lt_of_lt_of_le h hj.le
    exact absurd (hj.low k h hl) (hk.high hl)
  · exact h
  · have hl : j < fs.length := Nat.lt_of_lt_of_le h hk.le
    exact absurd (hk.low j h hl) (hj.high hl)
theorem sPlace_fix (w : World) (a : Option Addr) (len cap : Nat) (fs : List M.FileD) (p : ByteArray) (h : M.Files w a len cap fs) (hr : M.Rise fs fs.length) (k : Nat) (v : Bool) (hk : M.Place fs p k) (hv : v = true ↔ ∃ f ∈ fs, f.path = p) :
    Calls Tryz.prog 49 #[.slice a len cap, .string p] w fun e w' => e = .returned (.tuple #[.int .i64 k, .bool v]) ∧ Below w.heap.size w w' := by
  refine (sPlace_any w a len cap fs p h).mono ?_
  rintro e w' ⟨j, u, rfl, hp, hu, hb⟩
  have e1 : j = k := hp.uniq hk
  subst e1
  have e2 : u = v := by
    have := hu.trans (M.there_iff hp hr)
    rw [Bool.eq_iff_iff, this, hv]
  exact ⟨by rw [e2], hb⟩

set_option maxRecDepth 100000 in
set_option maxHeartbeats 3200000 in
theorem sDeltaR_any (w : World) (a1 a2 : Option Addr) (n1 c1 n2 c2 : Nat) (ss : List ByteArray) (fs : List M.FileD) (h1 : M.Strs w a1 n1 c1 ss) (h2 : M.Files w a2 n2 c2 fs) (o1 : ∀ s ∈ ss, s.size ≤ maxLen) (o2 : ∀ f ∈ fs, M.fok f) :
    Calls Tryz.prog 22 #[.agg #[.slice a1 n1 c1, .slice a2 n2 c2]] w fun e w' => ∃ v : Bool, e = .returned (.bool v) ∧ (v = true ↔ M.DeltaR ss fs) ∧ Below w.heap.size w w' := by
  have hlm1 : n1 ≤ 9223372036854775807 := by obtain ⟨_, h1, h2, _⟩ := h1; unfold maxLen at h2; omega
  have hlm2 : n2 ≤ 9223372036854775807 := by obtain ⟨_, h1, h2, _⟩ := h2; unfold maxLen at h2; omega
  have HN1 : Hid (n1 = ss.length) := h1.1
  have HN2 : Hid (n2 = fs.length) := h2.1
  have HS := M.hidf h1
  have HF := M.hidf h2
  have O1 := M.hidf o1
  have O2 := M.hidf o2
  have NO : Hid (∀ (W : World), ¬ M.DeltaR ss fs → Below w.heap.size w W → ∃ v : Bool, Ending.returned (.bool false) = .returned (.bool v) ∧ (v = true ↔ M.DeltaR ss fs) ∧ Below w.heap.size w W) := fun W hn hb => ⟨false, rfl, ⟨fun h => by simp at h, fun h => absurd h hn⟩, hb⟩
  have HB : Hid (∀ o, Below w.heap.size w (w.alloc o)) := fun o => (Below.refl _ _).alloc (Nat.le_refl _) _
  clear h1 h2 o1 o2
  by_cases hb1 : 40 < n1
  · have HN : Hid (¬ M.DeltaR ss fs) := fun h => by have := h.len1; have := HN1.out; omega
    have d1 : decide (40 < (n1 : Int)) = true := decide_eq_true (by omega)
    go_enter Tryz.func22, Tryz.ntmps22
    go_wp2
    go_ret
    exact NO.out _ HN.out (HB.out _)
  have d1 : decide (40 < (n1 : Int)) = false := decide_eq_false (by omega)
  by_cases hb2 : 40 < n2
  · have HN : Hid (¬ M.DeltaR ss fs) := fun h => by have := h.len2; have := HN2.out; omega
    have d2 : decide (40 < (n2 : Int)) = true := decide_eq_true (by omega)
    go_enter Tryz.func22, Tryz.ntmps22
    go_wp2
    go_ret
    exact NO.out _ HN.out (HB.out _)
  have d2 : decide (40 < (n2 : Int)) = false := decide_eq_false (by omega)
  go_enter Tryz.func22, Tryz.ntmps22
  go_wp2_with fail
  refine (sL04_any _ a2 n2 c2 fs (HF.out.below (HB.out _)) O2.out).mono ?_
  rintro e w1 ⟨v1, rfl, hv1, hb1'⟩
  have V1 := M.hidf hv1
  have B1 := M.hidf hb1'
  have B1w : Hid (Below w.heap.size w w1) := M.boxed_below hb1'
  clear hv1 hb1'
  cases v1
  · have HN : Hid (¬ M.DeltaR ss fs) := fun h => by have := V1.out.2 h.puts; cases this
    go_wp2
    go_ret
    exact NO.out _ HN.out B1w.out
  have P2 := M.hidf (V1.out.1 rfl)
  clear V1
  go_wp2
  go_loopw [3] (fun i wr => ∃ k : Nat, i = .int .i64 k ∧ k ≤ n1 ∧ Hid (M.PRise ss k ∧ ∀ j (_ : j < k) (h : j < ss.length), ∀ f ∈ fs, f.path ≠ ss[j]) ∧ Hid (Below (w.alloc (.cells #[.slice a1 n1 c1, .slice a2 n2 c2] 29)).heap.size (w.alloc (.cells #[.slice a1 n1 c1, .slice a2 n2 c2] 29)) wr)) (fun i _ => n1 - (intOf i).toNat)
  case atStart => exact ⟨0, rfl, Nat.zero_le _, ⟨M.PRise.zero ss, fun _ h => absurd h (Nat.not_lt_zero _)⟩, B1⟩
  case round =>
    obtain ⟨k, rfl, hk, HG, HBr⟩ := hrel
    have g0 : wr.cell? ⟨w.heap.size, 0, none⟩ = some (.slice a1 n1 c1) := M.boxed HBr.out 0 _ rfl
    have g1 : wr.cell? ⟨w.heap.size, 1, none⟩ = some (.slice a2 n2 c2) := M.boxed HBr.out 1 _ rfl
    by_cases hlt : k < n1
    · have hfl := HN1.out
      have HBw : Hid (Below w.heap.size w wr) := M.boxed_below HBr.out
      obtain ⟨-, -, -, hfa⟩ := HS.out.below HBw.out
      obtain ⟨b, off, ha1, hat⟩ := hfa (by omega)
      subst ha1
      have HAT : Hid (M.StrsAt wr b off ss) := hat
      have c0 := hat k (by omega)
      have hfk := List.getElem?_eq_getElem (l := ss) (i := k) (by omega)
      generalize ss[k]'(by omega) = s at c0 hfk
      have HFK : Hid (ss[k]? = some s) := hfk
      have HSS : Hid (s.size ≤ maxLen) := O1.out s (List.mem_of_getElem? hfk)
      clear hfk hat hfa hfl
      obtain ⟨k0, hk0⟩ := M.place_ex fs s
      obtain ⟨v0, hv0⟩ : ∃ v0 : Bool, v0 = true ↔ ∃ f ∈ fs, f.path = s := by
        by_cases hex : ∃ f ∈ fs, f.path = s
        · exact ⟨true, fun _ => hex, fun _ => rfl⟩
        · exact ⟨false, fun h => (by cases h), fun h => absurd h hex⟩
      have CC : Hid (∀ x : M.Wd wr, Calls Tryz.prog 49 #[.slice a2 n2 c2, .string s] x.val fun e w' => e = .returned (.tuple #[.int .i64 k0, .bool v0]) ∧ Below x.val.heap.size x.val w') := fun x => sPlace_fix x.val a2 n2 c2 fs s (HF.out.below (M.sf HBw.out x.bel)) P2.out k0 v0 hk0 hv0
      have HV0 := M.hidf hv0
      have q0 := M.Wd.cell g0
      have q1 := M.Wd.cell g1
      have q2 := M.Wd.cell c0
      have HX : Hid (∀ x : M.Wd wr, Below (w.alloc (.cells #[.slice (some ⟨b, off, none⟩) n1 c1, .slice a2 n2 c2] 29)).heap.size (w.alloc (.cells #[.slice (some ⟨b, off, none⟩) n1 c1, .slice a2 n2 c2] 29)) x.val ∧ Below wr.heap.size wr x.val) := fun x => ⟨M.sf HBr.out x.bel, x.bel⟩
      clear hk0 hv0
      go_wp2_with fail
      refine M.wp_region_wd (by kernel_rfl) (by kernel_rfl) (fun _ => ?_)
      repeat (first | go_big_quiet_skip | (go_big_quiet_want; go_big_quiet_op; first | go_big_quiet_on | (apply Exists.intro; refine ⟨fun x => ?_, ?_⟩; exact M.Wd.call x (CC.out x); go_big_quiet_on)))
      refine wpQuiet_nil ?_
      intro w3 hw'
      have hx : Below (w.alloc (.cells #[.slice (some ⟨b, off, none⟩) n1 c1, .slice a2 n2 c2] 29)).heap.size (w.alloc (.cells #[.slice (some ⟨b, off, none⟩) n1 c1, .slice a2 n2 c2] 29)) w3 ∧ Below wr.heap.size wr w3 := by obtain ⟨x, rfl⟩ := hw'; exact HX.out x
      have B3 := M.hidf hx.1
      have AT3 : Hid (M.StrsAt w3 b off ss) := HAT.out.of_block (hx.2.block b (World.block_lt_of_cell? wr _ c0))
      have m0 : w3.cell? ⟨w.heap.size, 0, none⟩ = some (.slice (some ⟨b, off, none⟩) n1 c1) := M.boxed hx.1 0 _ rfl
      have m2 : w3.cell? ⟨b, off + k, none⟩ = some (.string s) := (hx.2.cell (World.block_lt_of_cell? wr _ c0)).trans c0
      clear hx hw' q0 q1 q2 g0 g1 c0 CC HX HBr HBw
      have CC : Hid (∀ x : M.Wd w3, Calls Tryz.prog 50 #[.string s] x.val fun e w' => e = .returned (.bool (M.pathR s)) ∧ Below x.val.heap.size x.val w') := fun x => sPath_any s x.val HSS.out
      have HX : Hid (∀ x : M.Wd w3, Below (w.alloc (.cells #[.slice (some ⟨b, off, none⟩) n1 c1, .slice a2 n2 c2] 29)).heap.size (w.alloc (.cells #[.slice (some ⟨b, off, none⟩) n1 c1, .slice a2 n2 c2] 29)) x.val) := fun x => M.sf B3.out x.bel
      have q0 := M.Wd.cell m0
      have q2 := M.Wd.cell m2
      cases hr : M.pathR s
      · rw [hr] at CC
        have HN : Hid (¬ M.DeltaR ss fs) := fun h => by have := h.drops.pathAt HFK.out; rw [hr] at this; cases this
        clear hr
        go_wp2_with fail
        refine M.wp_region_wd (by kernel_rfl) (by kernel_rfl) (fun _ => ?_)
        repeat (first | go_big_quiet_skip | (go_big_quiet_want; go_big_quiet_op; first | go_big_quiet_on | (apply Exists.intro; refine ⟨fun x => ?_, ?_⟩; exact M.Wd.call x (CC.out x); go_big_quiet_on)))
        refine wpQuiet_nil ?_
        intro w4 hw'
        have B4 : Hid (Below w.heap.size w w4) := by obtain ⟨x, rfl⟩ := hw'; exact M.boxed_below (HX.out x)
        clear hw' m0 m2 q0 q2
        go_wp2
        go_ret
        exact NO.out _ HN.out B4.out
      rw [hr] at CC
      have HR := M.hidf hr
      clear hr
      have HX4 : Hid (∀ w4, (∃ x : M.Wd w3, w4 = x.val) → Below (w.alloc (.cells #[.slice (some ⟨b, off, none⟩) n1 c1, .slice a2 n2 c2] 29)).heap.size (w.alloc (.cells #[.slice (some ⟨b, off, none⟩) n1 c1, .slice a2 n2 c2] 29)) w4) := fun w4 hw => by obtain ⟨x, rfl⟩ := hw; exact HX.out x
      clear HX
      by_cases h0 : 0 < k
      case neg =>
        have d0 : decide (0 < k) = false := decide_eq_false h0
        cases v0
        · have HN : Hid (M.PRise ss (k + 1) ∧ ∀ j (_ : j < k + 1) (h : j < ss.length), ∀ f ∈ fs, f.path ≠ ss[j]) := ⟨HG.out.1.next HFK.out HR.out (fun _ h => absurd h h0), M.dr_next HG.out.2 HFK.out (fun f hf e => by have := HV0.out.2 ⟨f, hf, e⟩; cases this)⟩
          go_wp2_with fail
          refine M.wp_region_wd (by kernel_rfl) (by kernel_rfl) (fun _ => ?_)
          repeat (first | go_big_quiet_skip | (go_big_quiet_want; go_big_quiet_op; first | go_big_quiet_on | (apply Exists.intro; refine ⟨fun x => ?_, ?_⟩; exact M.Wd.call x (CC.out x); go_big_quiet_on)))
          refine wpQuiet_nil ?_
          intro w4 hw'
          have B4 := M.hidf (HX4.out w4 hw')
          clear hw' m0 m2 q0 q2
          go_wp2
          go_roundw
          case rel => exact ⟨k + 1, by go_num, by omega, HN, B4⟩
          case measure => simp [intOf]; omega
        · have HN : Hid (¬ M.DeltaR ss fs) := fun h => by
            obtain ⟨f, hf, e⟩ := HV0.out.1 rfl
            exact h.apart s (List.mem_of_getElem? HFK.out) f hf e
          go_wp2_with fail
          refine M.wp_region_wd (by kernel_rfl) (by kernel_rfl) (fun _ => ?_)
          repeat (first | go_big_quiet_skip | (go_big_quiet_want; go_big_quiet_op; first | go_big_quiet_on | (apply Exists.intro; refine ⟨fun x => ?_, ?_⟩; exact M.Wd.call x (CC.out x); go_big_quiet_on)))
          refine wpQuiet_nil ?_
          intro w4 hw'
          have B4 := M.hidf (HX4.out w4 hw')
          clear hw' m0 m2 q0 q2
          go_wp2
          go_ret
          exact NO.out _ HN.out (M.boxed_below B4.out)
      obtain ⟨j, hj0⟩ : ∃ j, k = j + 1 := ⟨k - 1, by omega⟩
      have HJ : Hid (k = j + 1) := hj0
      have hj : (k : Int) - 1 = (j : Int) := by omega
      have hjl : (j : Int) < (n1 : Int) := by omega
      have d0 : decide (0 < k) = true := decide_eq_true h0
      have hjf : j < ss.length := by have := HN1.out; omega
      have cj := AT3.out j hjf
      have hgj := List.getElem?_eq_getElem (l := ss) (i := j) hjf
      generalize ss[j]'hjf = g at cj hgj
      have HGJ := M.hidf hgj
      have qj := M.Wd.cell cj
      clear hj0 hgj hjf cj h0
      by_cases hlt2 : M.ltB g s
      · have hbl := M.less_yes hlt2
        cases v0
        · have HN : Hid (M.PRise ss (k + 1) ∧ ∀ j (_ : j < k + 1) (h : j < ss.length), ∀ f ∈ fs, f.path ≠ ss[j]) := ⟨HG.out.1.next HFK.out HR.out (fun g' _ hg' => by
            rw [HJ.out, Nat.add_sub_cancel, HGJ.out] at hg'
            obtain rfl := Option.some.inj hg'
            exact hlt2), M.dr_next HG.out.2 HFK.out (fun f hf e => by have := HV0.out.2 ⟨f, hf, e⟩; cases this)⟩
          clear hlt2
          go_wp2_with fail
          refine M.wp_region_wd (by kernel_rfl) (by kernel_rfl) (fun _ => ?_)
          repeat (first | go_big_quiet_skip | (go_big_quiet_want; go_big_quiet_op; first | go_big_quiet_on | (apply Exists.intro; refine ⟨fun x => ?_, ?_⟩; exact M.Wd.call x (CC.out x); go_big_quiet_on)))
          refine wpQuiet_nil ?_
          intro w4 hw'
          have B4 := M.hidf (HX4.out w4 hw')
          clear hw' m0 m2 q0 q2 qj hbl hj hjl
          go_wp2
          go_roundw
          case rel => exact ⟨k + 1, by go_num, by omega, HN, B4⟩
          case measure => simp [intOf]; omega
        · have HN : Hid (¬ M.DeltaR ss fs) := fun h => by
            obtain ⟨f, hf, e⟩ := HV0.out.1 rfl
            exact h.apart s (List.mem_of_getElem? HFK.out) f hf e
          clear hlt2
          go_wp2_with fail
          refine M.wp_region_wd (by kernel_rfl) (by kernel_rfl) (fun _ => ?_)
          repeat (first | go_big_quiet_skip | (go_big_quiet_want; go_big_quiet_op; first | go_big_quiet_on | (apply Exists.intro; refine ⟨fun x => ?_, ?_⟩; exact M.Wd.call x (CC.out x); go_big_quiet_on)))
          refine wpQuiet_nil ?_
          intro w4 hw'
          have B4 := M.hidf (HX4.out w4 hw')
          clear hw' m0 m2 q0 q2 qj hbl hj hjl
          go_wp2
          go_ret
          exact NO.out _ HN.out (M.boxed_below B4.out)
      · have hbl := M.less_no hlt2
        have HN : Hid (¬ M.DeltaR ss fs) := fun h => hlt2 (h.drops.riseAt (k := j) (by rw [← HJ.out]; exact HFK.out) HGJ.out)
        clear hlt2
        go_wp2_with fail
        refine M.wp_region_wd (by kernel_rfl) (by kernel_rfl) (fun _ => ?_)
        repeat (first | go_big_quiet_skip | (go_big_quiet_want; go_big_quiet_op; first | go_big_quiet_on | (apply Exists.intro; refine ⟨fun x => ?_, ?_⟩; exact M.Wd.call x (CC.out x); go_big_quiet_on)))
        refine wpQuiet_nil ?_
        intro w4 hw'
        have B4 := M.hidf (HX4.out w4 hw')
        clear hw' m0 m2 q0 q2 qj hbl hj hjl
        go_wp2
        go_ret
        exact NO.out _ HN.out (M.boxed_below B4.out)
    · have HT : Hid (M.DeltaR ss fs) := by
        have hfl := HN1.out
        have hf2 := HN2.out
        have : k = ss.length := by omega
        subst this
        exact ⟨by omega, by omega, HG.out.1, P2.out, fun s hs f hf => by obtain ⟨j, hj, rfl⟩ := List.mem_iff_getElem.1 hs; exact HG.out.2 j hj hj f hf⟩
      go_wp2
      go_ret
      exact ⟨true, rfl, ⟨fun _ => HT.out, fun _ => rfl⟩, M.boxed_below HBr.out⟩
end Go.Proofs.YtephjmlcbpfnaaaGreatDoor
