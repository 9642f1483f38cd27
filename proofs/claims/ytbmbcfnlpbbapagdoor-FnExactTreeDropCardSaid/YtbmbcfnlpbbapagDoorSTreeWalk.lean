/-
  What TreeRight of the specification does: it tells whether a list of files is a right tree.
-/
import Derived.Test.YtbmbcfnlpbbapagDoorFileRight
import Derived.Test.YtbmbcfnlpbbapagDoorIAboveWalk
import Derived.Test.YtbmbcfnlpbbapagDoorSFileWalk
import Derived.Test.YtbmbcfnlpbbapagDoorSPlaceWalk
import Derived.Test.YtbmbcfnlpbbapagDoorWide
import Derived.WalkKit
import Derived.WalkSpells
import Derived.WalkLawsBesides
namespace Go.Proofs.YtbmbcfnlpbbapagDoor
open Go.RowKit

/-- What is right of a list's first k files. -/
structure M.Good (fs : List M.FileD) (k : Nat) : Prop where
  file : ∀ i (_ : i < k) (h : i < fs.length), M.fileR fs[i] = true
  rise : ∀ i (_ : i < k) (_ : 0 < i) (h : i < fs.length), M.ltB fs[i - 1].path fs[i].path
  up : ∀ i (_ : i < k) (h : i < fs.length), (M.aboveB fs[i].path).size = 0 ∨ ∃ j, ∃ h' : j < fs.length, fs[j].path = M.aboveB fs[i].path ∧ fs[j].dir = true
theorem M.Good.zero (fs : List M.FileD) : M.Good fs 0 := ⟨fun _ h => absurd h (Nat.not_lt_zero _), fun _ h => absurd h (Nat.not_lt_zero _), fun _ h => absurd h (Nat.not_lt_zero _)⟩
theorem M.Good.tree {fs : List M.FileD} (h : M.Good fs fs.length) (hl : fs.length ≤ 20) : M.TreeR fs :=
  ⟨hl, fun i hi => h.file i hi hi, M.rise_of_adj (fun i h0 hi => h.rise i hi h0 hi), fun i hi => h.up i hi hi⟩
theorem M.Good.next {fs : List M.FileD} {k : Nat} {f : M.FileD} (h : M.Good fs k) (hk : fs[k]? = some f) (h1 : M.fileR f = true) (h2 : ∀ g, 0 < k → fs[k - 1]? = some g → M.ltB g.path f.path)
    (h3 : (M.aboveB f.path).size = 0 ∨ ∃ j, ∃ h' : j < fs.length, fs[j].path = M.aboveB f.path ∧ fs[j].dir = true) : M.Good fs (k + 1) := by
  obtain ⟨hlt, rfl⟩ := List.getElem?_eq_some_iff.1 hk
  refine ⟨fun i hi h' => ?_, fun i hi h0 h' => ?_, fun i hi h' => ?_⟩
  · by_cases e : i = k
    · subst e; exact h1
    · exact h.file i (by omega) h'
  · by_cases e : i = k
    · subst e; exact h2 _ h0 (List.getElem?_eq_getElem (by omega))
    · exact h.rise i (by omega) h0 h'
  · by_cases e : i = k
    · subst e; exact h3
    · exact h.up i (by omega) h'
theorem M.TreeR.fileAt {fs : List M.FileD} {k : Nat} {f : M.FileD} (h : M.TreeR fs) (hk : fs[k]? = some f) : M.fileR f = true := by
  obtain ⟨hlt, rfl⟩ := List.getElem?_eq_some_iff.1 hk
  exact h.file k hlt
theorem M.TreeR.riseAt {fs : List M.FileD} {k : Nat} {f g : M.FileD} (h : M.TreeR fs) (hk : fs[k + 1]? = some f) (hg : fs[k]? = some g) : M.ltB g.path f.path := by
  obtain ⟨hlt, rfl⟩ := List.getElem?_eq_some_iff.1 hk
  obtain ⟨_, rfl⟩ := List.getElem?_eq_some_iff.1 hg
  exact h.rise k (k + 1) (by omega) hlt
theorem M.TreeR.upAt {fs : List M.FileD} {k : Nat} {f : M.FileD} (h : M.TreeR fs) (hk : fs[k]? = some f) : (M.aboveB f.path).size = 0 ∨ ∃ j, ∃ h' : j < fs.length, fs[j].path = M.aboveB f.path ∧ fs[j].dir = true := by
  obtain ⟨hlt, rfl⟩ := List.getElem?_eq_some_iff.1 hk
  exact h.up k hlt
theorem M.path_size {f : M.FileD} (h : M.fileR f = true) : f.path.size ≤ 150 := by
  unfold M.fileR at h
  simp only [Bool.and_eq_true] at h
  exact M.pathR_size h.1.1.1.1
theorem M.above_size (s : ByteArray) : (M.aboveB s).size ≤ s.size := by
  unfold M.aboveB
  rw [ByteArray.size_extract]; omega

theorem M.undrew {w w' : World} (hb : Below w.drew.heap.size w.drew w') : Below w.heap.size w w' := ⟨hb.os, hb.tape, hb.output, hb.size, hb.block⟩

set_option maxRecDepth 100000 in
set_option maxHeartbeats 3200000 in
theorem sTree_any (w : World) (a : Option Addr) (len cap : Nat) (fs : List M.FileD) (h : M.Files w a len cap fs) (hok : ∀ f ∈ fs, M.fok f) :
    Calls Tryd.prog 10 #[.slice a len cap] w fun e w' => ∃ v : Bool, e = .returned (.bool v) ∧ (v = true ↔ M.TreeR fs) ∧ Below w.heap.size w w' := by
  have hlm : len ≤ 9223372036854775807 := by obtain ⟨_, h1, h2, _⟩ := h; unfold maxLen at h2; omega
  have HFL : Hid (len = fs.length) := h.1
  have HF : Hid (M.Files w a len cap fs) := h
  have HOK : Hid (∀ f ∈ fs, M.fok f) := hok
  clear h hok
  by_cases hbig : 20 < len
  · have HN : Hid (¬ M.TreeR fs) := fun h => absurd h.len (by have := HFL.out; omega)
    go_enter Tryd.func10, Tryd.ntmps10
    go_wp2
    go_ret
    exact ⟨false, rfl, ⟨fun h => by simp at h, fun h => absurd h HN.out⟩, Below.refl _ _⟩
  have NO : Hid (∀ (W : World), ¬ M.TreeR fs → Below w.heap.size w W → ∃ v : Bool, Ending.returned (.bool false) = .returned (.bool v) ∧ (v = true ↔ M.TreeR fs) ∧ Below w.heap.size w W) := fun W hn hb => ⟨false, rfl, ⟨fun h => by simp at h, fun h => absurd h hn⟩, hb⟩
  go_enter Tryd.func10, Tryd.ntmps10
  go_wp2
  go_loopw [3] (fun i wr => ∃ k : Nat, i = .int .i64 k ∧ k ≤ len ∧ Hid (M.Good fs k) ∧ Hid (Below w.heap.size w wr)) (fun i _ => len - (intOf i).toNat)
  case atStart => exact ⟨0, rfl, Nat.zero_le _, M.Good.zero fs, Below.refl _ _⟩
  case round =>
    obtain ⟨k, rfl, hk, HG, HBr⟩ := hrel
    by_cases hlt : k < len
    · have hfl := HFL.out
      obtain ⟨-, -, -, hfa⟩ := HF.out.below HBr.out
      obtain ⟨b, off, rfl, hat⟩ := hfa (by omega)
      have HAT : Hid (M.FilesAt wr b off fs) := hat
      obtain ⟨c0, c1, c2, c3, c4⟩ := hat k (by omega)
      have hfk := List.getElem?_eq_getElem (l := fs) (i := k) (by omega)
      generalize fs[k]'(by omega) = f at c0 c1 c2 c3 c4 hfk
      have HFK : Hid (fs[k]? = some f) := hfk
      have hokf := HOK.out f (List.mem_of_getElem? hfk)
      have hS := fun W => sFile_any f W hokf
      clear hfk hat hfa hfl
      unfold M.fval at hS
      have HS : Hid (∀ W, Calls Tryd.prog 25 #[.agg #[.string f.path, .bool f.dir, .int .i64 f.mode, .int .i64 f.time, .string f.data]] W fun e w' => e = .returned (.bool (M.fileR f)) ∧ Below W.heap.size W w') := hS
      have HP : Hid (f.path.size ≤ maxLen) := hokf.1
      clear hS hokf
      cases hr : M.fileR f
      · rw [hr] at HS
        have HN : Hid (¬ M.TreeR fs) := fun h => by have := h.fileAt HFK.out; rw [hr] at this; cases this
        clear hr
        have q0 := M.Wd.cell c0
        have q1 := M.Wd.cell c1
        have q2 := M.Wd.cell c2
        have q3 := M.Wd.cell c3
        have q4 := M.Wd.cell c4
        go_wp2_with fail
        refine M.wp_region_wd (by kernel_rfl) (by kernel_rfl) (fun _ => ?_)
        repeat (first | go_big_quiet_skip | (go_big_quiet_want; go_big_quiet_op; first | go_big_quiet_on | (apply Exists.intro; refine ⟨fun x => ?_, ?_⟩; exact M.Wd.call x (HS.out _); go_big_quiet_on)))
        refine wpQuiet_nil ?_
        intro w2 hw'
        have hb2 : Below wr.heap.size wr w2 := by obtain ⟨x, rfl⟩ := hw'; exact x.bel
        clear hw'
        have HB2 : Hid (Below w.heap.size w w2) := HBr.out.trans (hb2.mono HBr.out.size)
        have HA2 : Hid (M.FilesAt w2 b off fs) := HAT.out.below hb2
        clear hb2 c0 c1 c2 c3 c4 q0 q1 q2 q3 q4 HA2
        go_wp2
        go_ret
        exact NO.out _ HN.out HB2.out
      · rw [hr] at HS
        have HR : Hid (M.fileR f = true) := hr
        clear hr
        have q0 := M.Wd.cell c0
        have q1 := M.Wd.cell c1
        have q2 := M.Wd.cell c2
        have q3 := M.Wd.cell c3
        have q4 := M.Wd.cell c4
        clear c1 c2 c3 c4
        by_cases h0 : 0 < k
        case neg =>
          have HRISE : Hid (∀ g, 0 < k → fs[k - 1]? = some g → M.ltB g.path f.path) := fun _ h => absurd h h0
          have d0 : decide (0 < (k : Int)) = false := decide_eq_false (by omega)
          go_wp2_with fail
          refine M.wp_region_wd (by kernel_rfl) (by kernel_rfl) (fun _ => ?_)
          repeat (first | go_big_quiet_skip | (go_big_quiet_want; go_big_quiet_op; first | go_big_quiet_on | (apply Exists.intro; refine ⟨fun x => ?_, ?_⟩; exact M.Wd.call x (HS.out _); go_big_quiet_on)))
          refine wpQuiet_nil ?_
          intro w2 hw'
          have hb2 : Below wr.heap.size wr w2 := by obtain ⟨x, rfl⟩ := hw'; exact x.bel
          clear hw'
          have HB2 : Hid (Below w.heap.size w w2) := HBr.out.trans (hb2.mono HBr.out.size)
          have HA2 : Hid (M.FilesAt w2 b off fs) := HAT.out.below hb2
          have t0 : w2.cell? ⟨b, off + k * 5, none⟩ = some (.string f.path) := by rw [hb2.cell (World.block_lt_of_cell? wr _ c0)]; exact c0
          clear hb2 c0 q0 q1 q2 q3 q4
          have HUP : Hid (∀ W, Calls Tryd.prog 26 #[.string f.path] W fun e w' => e = .returned (.string (M.aboveB f.path)) ∧ W = w') := fun W => sAbove_any f.path W HP.out
          have HNX : Hid (((M.aboveB f.path).size = 0 ∨ ∃ j, ∃ h' : j < fs.length, fs[j].path = M.aboveB f.path ∧ fs[j].dir = true) → M.Good fs (k + 1)) := fun h3 => HG.out.next HFK.out HR.out HRISE.out h3
          have HUN : Hid (M.TreeR fs → (M.aboveB f.path).size = 0 ∨ ∃ j, ∃ h' : j < fs.length, fs[j].path = M.aboveB f.path ∧ fs[j].dir = true) := fun h => h.upAt HFK.out
          have hus := M.above_size f.path
          have hps := M.path_size HR.out
          generalize M.aboveB f.path = up at HUP HNX HUN hus
          go_wp2_with fail
          refine (HUP.out _).mono ?_
          rintro e w2' ⟨rfl, rfl⟩
          by_cases hz : up.size = 0
          · obtain rfl := M.empty_of hz
            have HN2 : Hid (M.Good fs (k + 1)) := HNX.out (.inl hz)
            clear hz HNX HUN
            go_wp2
            go_roundw
            case rel => exact ⟨k + 1, by go_num, by omega, HN2, HB2⟩
            case measure => simp [intOf]; omega
          · have dz := M.not_empty hz
            have HUN2 : Hid (M.TreeR fs → ∃ j, ∃ h' : j < fs.length, fs[j].path = up ∧ fs[j].dir = true) := fun h => (HUN.out h).resolve_left hz
            have HNX2 : Hid ((∃ j, ∃ h' : j < fs.length, fs[j].path = up ∧ fs[j].dir = true) → M.Good fs (k + 1)) := fun h => HNX.out (.inr h)
            clear hz HNX HUN HUP
            have hlf := HFL.out
            have hff := HF.out
            have HF2 : Hid (M.Files w2 (some ⟨b, off, none⟩) len cap fs) := ⟨hff.1, hff.2.1, hff.2.2.1, fun _ => ⟨b, off, rfl, HA2.out⟩⟩
            clear hlf hff
            go_wp2_with fail
            refine (sPlace_any w2 (some ⟨b, off, none⟩) len cap fs up HF2.out).mono ?_
            rintro e w3 ⟨k2, v, rfl, hpl, hth, hb3⟩
            have HB3 : Hid (Below w.heap.size w w3) := HB2.out.trans (hb3.mono HB2.out.size)
            have HA3 : Hid (M.FilesAt w3 b off fs) := HA2.out.below hb3
            have HPL : Hid (M.Place fs up k2) := hpl
            have HTH : Hid (v = true ↔ M.There fs up k2) := hth
            clear hpl hth hb3
            cases v
            · have HN3 : Hid (¬ M.TreeR fs) := fun h => by
                obtain ⟨j, hj, e1, _⟩ := HUN2.out h
                obtain rfl := HPL.out.eq_of_there h.rise ⟨hj, e1⟩
                exact absurd (HTH.out.2 ⟨hj, e1⟩) (by simp)
              clear HUN2 HNX2 HPL HTH
              go_wp2
              go_ret
              exact NO.out _ HN3.out HB3.out
            · obtain ⟨hk2, hp2⟩ := HTH.out.1 rfl
              have hdir := (HA3.out k2 hk2).2.1
              have hlf := HFL.out
              have hk3 : k2 < len := by omega
              have hk4 : (k2 : Int) < (len : Int) := by omega
              cases hd : fs[k2].dir
              · have HN3 : Hid (¬ M.TreeR fs) := fun h => by
                  obtain ⟨j, hj, e1, e2⟩ := HUN2.out h
                  obtain rfl := HPL.out.eq_of_there h.rise ⟨hj, e1⟩
                  rw [hd] at e2
                  exact absurd e2 (by simp)
                rw [hd] at hdir
                clear hd hp2 hk2 HUN2 HNX2 HPL HTH hlf
                go_wp2
                go_ret
                exact NO.out _ HN3.out HB3.out
              · have HN4 : Hid (M.Good fs (k + 1)) := HNX2.out ⟨k2, hk2, hp2, hd⟩
                rw [hd] at hdir
                clear hd hp2 hk2 HUN2 HNX2 HPL HTH hlf
                go_wp2
                go_roundw
                case rel => exact ⟨k + 1, by go_num, by omega, HN4, HB3⟩
                case measure => simp [intOf]; omega
        obtain ⟨j, hj0⟩ : ∃ j, k = j + 1 := ⟨k - 1, by omega⟩
        have HJ : Hid (k = j + 1) := hj0
        have hj : (k : Int) - 1 = (j : Int) := by omega
        have hjl : (j : Int) < (len : Int) := by omega
        have d0 : decide (0 < k) = true := decide_eq_true h0
        have hjf : j < fs.length := by have := HFL.out; omega
        have cj := (HAT.out j hjf).1
        have hgj := List.getElem?_eq_getElem (l := fs) (i := j) hjf
        generalize fs[j]'hjf = g at cj hgj
        have HGJ : Hid (fs[j]? = some g) := hgj
        have qj := M.Wd.cell cj
        clear hj0 hgj hjf cj h0
        by_cases hlt2 : M.ltB g.path f.path
        · have HRISE : Hid (∀ g, 0 < k → fs[k - 1]? = some g → M.ltB g.path f.path) := fun g' _ hg' => by
            rw [HJ.out, Nat.add_sub_cancel, HGJ.out] at hg'
            obtain rfl := Option.some.inj hg'
            exact hlt2
          have hbl := M.less_yes hlt2
          clear hlt2
          go_wp2_with fail
          refine M.wp_region_wd (by kernel_rfl) (by kernel_rfl) (fun _ => ?_)
          repeat (first | go_big_quiet_skip | (go_big_quiet_want; go_big_quiet_op; first | go_big_quiet_on | (apply Exists.intro; refine ⟨fun x => ?_, ?_⟩; exact M.Wd.call x (HS.out _); go_big_quiet_on)))
          refine wpQuiet_nil ?_
          intro w2 hw'
          have hb2 : Below wr.heap.size wr w2 := by obtain ⟨x, rfl⟩ := hw'; exact x.bel
          clear hw'
          have HB2 : Hid (Below w.heap.size w w2) := HBr.out.trans (hb2.mono HBr.out.size)
          have HA2 : Hid (M.FilesAt w2 b off fs) := HAT.out.below hb2
          have t0 : w2.cell? ⟨b, off + k * 5, none⟩ = some (.string f.path) := by rw [hb2.cell (World.block_lt_of_cell? wr _ c0)]; exact c0
          clear hb2 c0 q0 q1 q2 q3 q4 qj hbl hj hjl
          have HUP : Hid (∀ W, Calls Tryd.prog 26 #[.string f.path] W fun e w' => e = .returned (.string (M.aboveB f.path)) ∧ W = w') := fun W => sAbove_any f.path W HP.out
          have HNX : Hid (((M.aboveB f.path).size = 0 ∨ ∃ j, ∃ h' : j < fs.length, fs[j].path = M.aboveB f.path ∧ fs[j].dir = true) → M.Good fs (k + 1)) := fun h3 => HG.out.next HFK.out HR.out HRISE.out h3
          have HUN : Hid (M.TreeR fs → (M.aboveB f.path).size = 0 ∨ ∃ j, ∃ h' : j < fs.length, fs[j].path = M.aboveB f.path ∧ fs[j].dir = true) := fun h => h.upAt HFK.out
          have hus := M.above_size f.path
          have hps := M.path_size HR.out
          generalize M.aboveB f.path = up at HUP HNX HUN hus
          go_wp2_with fail
          refine (HUP.out _).mono ?_
          rintro e w2' ⟨rfl, rfl⟩
          by_cases hz : up.size = 0
          · obtain rfl := M.empty_of hz
            have HN2 : Hid (M.Good fs (k + 1)) := HNX.out (.inl hz)
            clear hz HNX HUN
            go_wp2
            go_roundw
            case rel => exact ⟨k + 1, by go_num, by omega, HN2, HB2⟩
            case measure => simp [intOf]; omega
          · have dz := M.not_empty hz
            have HUN2 : Hid (M.TreeR fs → ∃ j, ∃ h' : j < fs.length, fs[j].path = up ∧ fs[j].dir = true) := fun h => (HUN.out h).resolve_left hz
            have HNX2 : Hid ((∃ j, ∃ h' : j < fs.length, fs[j].path = up ∧ fs[j].dir = true) → M.Good fs (k + 1)) := fun h => HNX.out (.inr h)
            clear hz HNX HUN HUP
            have hlf := HFL.out
            have hff := HF.out
            have HF2 : Hid (M.Files w2 (some ⟨b, off, none⟩) len cap fs) := ⟨hff.1, hff.2.1, hff.2.2.1, fun _ => ⟨b, off, rfl, HA2.out⟩⟩
            clear hlf hff
            go_wp2_with fail
            refine (sPlace_any w2 (some ⟨b, off, none⟩) len cap fs up HF2.out).mono ?_
            rintro e w3 ⟨k2, v, rfl, hpl, hth, hb3⟩
            have HB3 : Hid (Below w.heap.size w w3) := HB2.out.trans (hb3.mono HB2.out.size)
            have HA3 : Hid (M.FilesAt w3 b off fs) := HA2.out.below hb3
            have HPL : Hid (M.Place fs up k2) := hpl
            have HTH : Hid (v = true ↔ M.There fs up k2) := hth
            clear hpl hth hb3
            cases v
            · have HN3 : Hid (¬ M.TreeR fs) := fun h => by
                obtain ⟨j, hj, e1, _⟩ := HUN2.out h
                obtain rfl := HPL.out.eq_of_there h.rise ⟨hj, e1⟩
                exact absurd (HTH.out.2 ⟨hj, e1⟩) (by simp)
              clear HUN2 HNX2 HPL HTH
              go_wp2
              go_ret
              exact NO.out _ HN3.out HB3.out
            · obtain ⟨hk2, hp2⟩ := HTH.out.1 rfl
              have hdir := (HA3.out k2 hk2).2.1
              have hlf := HFL.out
              have hk3 : k2 < len := by omega
              have hk4 : (k2 : Int) < (len : Int) := by omega
              cases hd : fs[k2].dir
              · have HN3 : Hid (¬ M.TreeR fs) := fun h => by
                  obtain ⟨j, hj, e1, e2⟩ := HUN2.out h
                  obtain rfl := HPL.out.eq_of_there h.rise ⟨hj, e1⟩
                  rw [hd] at e2
                  exact absurd e2 (by simp)
                rw [hd] at hdir
                clear hd hp2 hk2 HUN2 HNX2 HPL HTH hlf
                go_wp2
                go_ret
                exact NO.out _ HN3.out HB3.out
              · have HN4 : Hid (M.Good fs (k + 1)) := HNX2.out ⟨k2, hk2, hp2, hd⟩
                rw [hd] at hdir
                clear hd hp2 hk2 HUN2 HNX2 HPL HTH hlf
                go_wp2
                go_roundw
                case rel => exact ⟨k + 1, by go_num, by omega, HN4, HB3⟩
                case measure => simp [intOf]; omega
        · have HN : Hid (¬ M.TreeR fs) := fun h => hlt2 (h.riseAt (k := j) (by rw [← HJ.out]; exact HFK.out) HGJ.out)
          have hbl := M.less_no hlt2
          clear hlt2
          go_wp2_with fail
          refine M.wp_region_wd (by kernel_rfl) (by kernel_rfl) (fun _ => ?_)
          repeat (first | go_big_quiet_skip | (go_big_quiet_want; go_big_quiet_op; first | go_big_quiet_on | (apply Exists.intro; refine ⟨fun x => ?_, ?_⟩; exact M.Wd.call x (HS.out _); go_big_quiet_on)))
          refine wpQuiet_nil ?_
          intro w2 hw'
          have hb2 : Below wr.heap.size wr w2 := by obtain ⟨x, rfl⟩ := hw'; exact x.bel
          clear hw'
          have HB2 : Hid (Below w.heap.size w w2) := HBr.out.trans (hb2.mono HBr.out.size)
          clear hb2 c0 q0 q1 q2 q3 q4 qj hbl hj hjl
          go_wp2
          go_ret
          exact NO.out _ HN.out HB2.out
    · have HT : Hid (M.TreeR fs) := by
        have hfl := HFL.out
        have : k = fs.length := by omega
        subst this
        exact HG.out.tree (by omega)
      go_wp2
      go_ret
      exact ⟨true, rfl, ⟨fun _ => HT.out, fun _ => rfl⟩, HBr.out⟩
end Go.Proofs.YtbmbcfnlpbbapagDoor
