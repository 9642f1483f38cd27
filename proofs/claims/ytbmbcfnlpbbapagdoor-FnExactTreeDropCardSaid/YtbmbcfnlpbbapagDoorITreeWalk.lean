/-
  What TreeRight of the program does: it tells whether a list of files is a right tree.
-/
import Derived.Test.YtbmbcfnlpbbapagDoorIByPath
import Derived.Test.YtbmbcfnlpbbapagDoorSTreeWalk
import Derived.WalkKit
import Derived.WalkSpells
import Derived.WalkLawsBesides
import Derived.Maps.Own
import Derived.Maps.OwnOps
namespace Go.Proofs.YtbmbcfnlpbbapagDoor
open Go.RowKit Go.Maps

theorem M.TreeR.toRise {fs : List M.FileD} (h : M.TreeR fs) : M.Rise fs fs.length := ⟨fun i _ hi => h.file i hi, fun i _ h0 hi => h.rise (i - 1) i (by omega) hi⟩
theorem M.Rise.toTree {fs : List M.FileD} (h : M.Rise fs fs.length) (hl : fs.length ≤ 20) (hu : ∀ i (hi : i < fs.length), (M.aboveB fs[i].path).size = 0 ∨ ∃ j, ∃ h' : j < fs.length, fs[j].path = M.aboveB fs[i].path ∧ fs[j].dir = true) : M.TreeR fs :=
  ⟨hl, fun i hi => h.file i hi hi, M.rise_of_adj (fun i h0 hi => h.rise i hi h0 hi), hu⟩
theorem M.Rise.all {fs : List M.FileD} (h : M.Rise fs fs.length) : ∀ i j (_ : i < j) (h' : j < fs.length), M.ltB fs[i].path fs[j].path := M.rise_of_adj (fun i h0 hi => h.rise i hi h0 hi)
theorem zeroFile (w : World) : (zeroValue 31).run Tryd.prog w = .ok (M.fval M.zeroF) w := by kernel_rfl

set_option maxRecDepth 100000 in
set_option maxHeartbeats 3200000 in
theorem iTree_any (w : World) (a : Option Addr) (len cap : Nat) (fs : List M.FileD) (h : M.Files w a len cap fs) (hok : ∀ f ∈ fs, M.fok f) (hm : M.ml w) :
    Calls Tryd.prog 12 #[.slice a len cap] w fun e w' => ∃ v : Bool, e = .returned (.bool v) ∧ (v = true ↔ M.TreeR fs) ∧ Below w.heap.size w w' := by
  have hlm : len ≤ 9223372036854775807 := by obtain ⟨_, h1, h2, _⟩ := h; unfold maxLen at h2; omega
  have HFL : Hid (len = fs.length) := h.1
  have HF : Hid (M.Files w a len cap fs) := h
  have HOK : Hid (∀ f ∈ fs, M.fok f) := hok
  have HM : Hid (M.ml w) := hm
  clear h hok hm
  have NO : Hid (∀ (W : World), ¬ M.TreeR fs → Below w.heap.size w W → ∃ v : Bool, Ending.returned (.bool false) = .returned (.bool v) ∧ (v = true ↔ M.TreeR fs) ∧ Below w.heap.size w W) := fun W hn hb => ⟨false, rfl, ⟨fun h => by simp at h, fun h => absurd h hn⟩, hb⟩
  by_cases hbig : 20 < len
  · have HN : Hid (¬ M.TreeR fs) := fun h => absurd h.len (by have := HFL.out; omega)
    have d1 : decide (20 < (len : Int)) = true := decide_eq_true (by omega)
    go_enter Tryd.func12, Tryd.ntmps12
    go_wp2
    go_ret
    exact NO.out _ HN.out (Below.refl _ _)
  go_enter Tryd.func12, Tryd.ntmps12
  go_wp2_with fail
  refine (iRise_any w a len cap fs HF.out HOK.out HM.out).mono ?_
  rintro e w1 ⟨v, rfl, hv, hb⟩
  have HV : Hid (v = true ↔ M.Rise fs fs.length) := hv
  have B1 : Hid (Below w.heap.size w w1) := hb
  clear hv hb
  cases v
  · have HN : Hid (¬ M.TreeR fs) := fun h => by have := HV.out.2 h.toRise; cases this
    go_wp2
    go_ret
    exact NO.out _ HN.out B1.out
  have HRS : Hid (M.Rise fs fs.length) := HV.out.1 rfl
  clear HV
  go_wp2_with fail
  refine (iByPath_any w1 a len cap fs (HF.out.below B1.out) HOK.out (by omega)).mono ?_
  rintro e w2 ⟨rfl, hown, hb⟩
  have B2 : Hid (Below w.heap.size w w2) := B1.out.trans (hb.mono B1.out.size)
  have HOW : Hid (w2.ownsMap Tryd.prog 9 M.fileElem w1.heap.size len (M.dat fs)) := hown
  clear hb hown
  generalize w1.heap.size = B at HOW
  clear B1
  go_wp2
  go_loopw [19] (fun i wr => ∃ k : Nat, i = .int .i64 k ∧ k ≤ len ∧ Hid (∀ i (_ : i < k) (h : i < fs.length), (M.aboveB fs[i].path).size = 0 ∨ ∃ j, ∃ h' : j < fs.length, fs[j].path = M.aboveB fs[i].path ∧ fs[j].dir = true) ∧ Hid (wr.ownsMap Tryd.prog 9 M.fileElem B len (M.dat fs)) ∧ Hid (Below w.heap.size w wr)) (fun i _ => len - (intOf i).toNat)
  case atStart => exact ⟨0, rfl, Nat.zero_le _, fun _ h => absurd h (Nat.not_lt_zero _), HOW, B2⟩
  case round =>
    obtain ⟨k, rfl, hk, HG, HOr, HBr⟩ := hrel
    by_cases hlt : k < len
    · have hfl := HFL.out
      obtain ⟨-, -, -, hfa⟩ := HF.out.below HBr.out
      obtain ⟨b, off, rfl, hat⟩ := hfa (by omega)
      obtain ⟨c0, c1, c2, c3, c4⟩ := hat k (by omega)
      have hfk := List.getElem?_eq_getElem (l := fs) (i := k) (by omega)
      generalize fs[k]'(by omega) = f at c0 c1 c2 c3 c4 hfk
      have HFK : Hid (fs[k]? = some f) := hfk
      have hps : f.path.size ≤ 150 := M.path_size (HRS.out.fileAt hfk)
      have hus := M.above_size f.path
      have HUP : Hid (∀ W, Calls Tryd.prog 31 #[.string f.path] W fun e w' => e = .returned (.string (M.aboveB f.path)) ∧ W = w') := fun W => iAbove_any f.path W (by omega)
      have HNX : Hid (((M.aboveB f.path).size = 0 ∨ ∃ j, ∃ h' : j < fs.length, fs[j].path = M.aboveB f.path ∧ fs[j].dir = true) → ∀ i (_ : i < k + 1) (h : i < fs.length), (M.aboveB fs[i].path).size = 0 ∨ ∃ j, ∃ h' : j < fs.length, fs[j].path = M.aboveB fs[i].path ∧ fs[j].dir = true) := fun h3 i hi h => by
        by_cases e : i = k
        · subst e
          obtain ⟨_, hx⟩ := List.getElem?_eq_some_iff.1 HFK.out
          rw [hx]; exact h3
        · exact HG.out i (by omega) h
      have HUN : Hid (M.TreeR fs → (M.aboveB f.path).size = 0 ∨ ∃ j, ∃ h' : j < fs.length, fs[j].path = M.aboveB f.path ∧ fs[j].dir = true) := fun h => h.upAt HFK.out
      generalize M.aboveB f.path = up at HUP HNX HUN hus
      have HO0 : Hid ((wr.alloc (.cells #[.string f.path, .bool f.dir, .int .i64 f.mode, .int .i64 f.time, .string f.data] 31)).ownsMap Tryd.prog 9 M.fileElem B len (M.dat fs)) := HOr.out.alloc _
      have HB0 : Hid (Below w.heap.size w (wr.alloc (.cells #[.string f.path, .bool f.dir, .int .i64 f.mode, .int .i64 f.time, .string f.data] 31))) := HBr.out.alloc HBr.out.size _
      clear hfk hat hfa hfl HG
      go_wp2_with fail
      refine (HUP.out _).mono ?_
      rintro e w3 ⟨rfl, rfl⟩
      by_cases hz : up.size = 0
      · obtain rfl := M.empty_of hz
        have HN2 := HNX.out (.inl hz)
        have HN3 : Hid (∀ i (_ : i < k + 1) (h : i < fs.length), (M.aboveB fs[i].path).size = 0 ∨ ∃ j, ∃ h' : j < fs.length, fs[j].path = M.aboveB fs[i].path ∧ fs[j].dir = true) := HN2
        clear hz HNX HUN HN2 c0 c1 c2 c3 c4
        go_wp2
        go_roundw
        case rel => exact ⟨k + 1, by go_num, by omega, HN3, HO0, HB0⟩
        case measure => simp [intOf]; omega
      · have dz := M.not_empty hz
        obtain ⟨v, ps, hrun, hv⟩ := HO0.out.lookup M.keyS Tryd.underlying47 (zeroFile _) (M.fileElem_mk M.zeroF) (Go.WideMaps.keyOf_string_mk Tryd.underlying9 (s := up) (by unfold maxLen; omega))
        obtain ⟨g, rfl, hg⟩ := M.fileElem_inv hv
        have hlk : (M.dat fs).atKey (M.key up) (.held M.zeroF) = .held g := congrArg Prod.fst hg
        have HU : Hid ((∃ j, ∃ h' : j < fs.length, fs[j].path = up ∧ fs[j].dir = true) ↔ g.dir = true) := by
          rcases M.dat_look up (.held M.zeroF) fs with ⟨j, hj, e1, e2⟩ | ⟨e1, e2⟩
          · rw [hlk] at e2
            have e3 : g = fs[j] := by simpa using e2
            refine ⟨fun ⟨j', hj', e4, e5⟩ => ?_, fun h => ⟨j, hj, e1, by rw [← e3]; exact h⟩⟩
            rcases Nat.lt_trichotomy j j' with h | h | h
            · have := HRS.out.all j j' h hj'; rw [e1, e4] at this; exact absurd this (M.ltB_irrefl _)
            · subst h; rw [e3]; exact e5
            · have := HRS.out.all j' j h hj; rw [e1, e4] at this; exact absurd this (M.ltB_irrefl _)
          · rw [hlk] at e2
            have e3 : g = M.zeroF := by simpa using e2
            refine ⟨fun ⟨j, hj, e4, _⟩ => absurd e4 (e1 j hj), fun h => by rw [e3] at h; cases h⟩
        unfold M.fval at hrun
        clear hv hg hlk
        obtain ⟨gp, gd, gm, gt, gx⟩ := g
        simp only at hrun HU
        have hfd : ∀ W : World, (Instr.field 31 (.agg #[.string gp, .bool gd, .int .i64 gm, .int .i64 gt, .string gx]) 1).run Tryd.prog W = .ok (.bool gd) W := fun W => by kernel_rfl
        cases gd
        · have HN : Hid (¬ M.TreeR fs) := fun h => by
            have := HU.out.1 ((HUN.out h).resolve_left hz)
            cases this
          clear hz HNX HUN HU c0 c1 c2 c3 c4
          go_wp2
          go_ret
          exact NO.out _ HN.out HB0.out
        · have HN2 := HNX.out (.inr (HU.out.2 rfl))
          have HN3 : Hid (∀ i (_ : i < k + 1) (h : i < fs.length), (M.aboveB fs[i].path).size = 0 ∨ ∃ j, ∃ h' : j < fs.length, fs[j].path = M.aboveB fs[i].path ∧ fs[j].dir = true) := HN2
          clear hz HNX HUN HU HN2 c0 c1 c2 c3 c4
          go_wp2
          go_roundw
          case rel => exact ⟨k + 1, by go_num, by omega, HN3, HO0, HB0⟩
          case measure => simp [intOf]; omega
    · have HT : Hid (M.TreeR fs) := by
        have hfl := HFL.out
        refine HRS.out.toTree (by omega) (fun i hi => HG.out i (by omega) hi)
      go_wp2
      go_ret
      exact ⟨true, rfl, ⟨fun _ => HT.out, fun _ => rfl⟩, HBr.out⟩
end Go.Proofs.YtbmbcfnlpbbapagDoor
