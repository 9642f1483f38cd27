/-
  What filesByPath of the program does: a new map of the files by their paths.
-/
import Derived.Test.YtbmbcfnlpbbapagDoorMapMath
import Derived.Test.YtbmbcfnlpbbapagDoorIRiseWalk
import Derived.WalkKit
import Derived.WalkSpells
import Derived.WalkLawsBesides
import Derived.Maps.Own
import Derived.Maps.OwnOps
namespace Go.Proofs.YtbmbcfnlpbbapagDoor
open Go.RowKit Go.Maps

theorem M.keyS : Keyed Tryd.prog 9 := string_keyed Tryd.underlying9
theorem run_makeMap_some (n : Int) (w : World) : (Instr.makeMap 47 (some (.int .i64 n))).run Tryd.prog w = .ok (.map (some w.heap.size)) (w.alloc (.map #[] 0)) := by
  unfold Instr.makeMap
  simp [go_sem]

set_option maxRecDepth 100000 in
set_option maxHeartbeats 3200000 in
theorem iByPath_any (w : World) (a : Option Addr) (len cap : Nat) (fs : List M.FileD) (h : M.Files w a len cap fs) (hok : ∀ f ∈ fs, M.fok f) (hlen : len ≤ 1048576) :
    Calls Tryd.prog 30 #[.slice a len cap] w fun e w' => e = .returned (.map (some w.heap.size)) ∧ w'.ownsMap Tryd.prog 9 M.fileElem w.heap.size len (M.dat fs) ∧ Below w.heap.size w w' := by
  have HFL : Hid (len = fs.length) := h.1
  have HF : Hid (M.Files w a len cap fs) := h
  have HOK : Hid (∀ f ∈ fs, M.fok f) := hok
  have hmm := run_makeMap_some
  clear h hok
  go_enter Tryd.func30, Tryd.ntmps30
  go_wp2
  go_loopw [11] (fun i wr => ∃ k : Nat, i = .int .i64 k ∧ k ≤ len ∧ Hid (wr.ownsMap Tryd.prog 9 M.fileElem w.heap.size k (M.dat (fs.take k))) ∧ Hid (Below w.heap.size w wr)) (fun i _ => len - (intOf i).toNat)
  case atStart => exact ⟨0, rfl, Nat.zero_le _, World.ownsMap_made _ _ _ _, (Below.refl _ _).alloc (Nat.le_refl _) _⟩
  case round =>
    obtain ⟨k, rfl, hk, HOW, HBr⟩ := hrel
    by_cases hlt : k < len
    · have hfl := HFL.out
      obtain ⟨-, -, -, hfa⟩ := HF.out.below HBr.out
      obtain ⟨b, off, rfl, hat⟩ := hfa (by omega)
      obtain ⟨c0, c1, c2, c3, c4⟩ := hat k (by omega)
      have hfk := List.getElem?_eq_getElem (l := fs) (i := k) (by omega)
      generalize fs[k]'(by omega) = f at c0 c1 c2 c3 c4 hfk
      have HFK : Hid (fs[k]? = some f) := hfk
      have HKEY : Hid (keyOf Tryd.prog 9 (.string f.path) = some (M.key f.path)) := Go.WideMaps.keyOf_string_mk Tryd.underlying9 (HOK.out f (List.mem_of_getElem? hfk)).1
      have HVAL : Hid (M.fileElem (.agg #[.string f.path, .bool f.dir, .int .i64 f.mode, .int .i64 f.time, .string f.data]) = some (.held f, [])) := M.fileElem_mk f
      clear hfk hat hfa hfl
      go_wp2_with (at_mapUpdate; refine wpList_mapUpdate_own _ rfl _ _ _ 47 rfl 9 31 M.keyS Tryd.underlying47 _ w.heap.size k _ rfl (HOW.out.alloc _) (by unfold maxLen; omega) _ _ _ rfl rfl HKEY.out _ [] HVAL.out ?_)
      intro w1 hown1 hgrow1
      have HO1 : Hid (w1.ownsMap Tryd.prog 9 M.fileElem w.heap.size (k + 1) (M.dat (fs.take (k + 1)))) := by
        show World.ownsMap _ _ _ _ _ _ _
        rw [M.take_snoc_get HFK.out, M.dat_snoc]; exact hown1
      have HB1 : Hid (Below w.heap.size w w1) := (HBr.out.alloc HBr.out.size _).grown hgrow1 (by have := HBr.out.size; simp; omega) (fun j hj => by cases hj; exact Nat.le_refl _)
      clear hown1 hgrow1 c0 c1 c2 c3 c4
      go_wp2
      go_roundw
      case rel => exact ⟨k + 1, by go_num, by omega, HO1, HB1⟩
      case measure => simp [intOf]; omega
    · have HT : Hid (wr.ownsMap Tryd.prog 9 M.fileElem w.heap.size len (M.dat fs)) := by
        have hfl := HFL.out
        obtain rfl : k = len := by omega
        have := HOW.out
        rw [List.take_of_length_le (by omega)] at this
        exact this
      go_wp2
      go_ret
      exact ⟨rfl, HT.out, HBr.out⟩
end Go.Proofs.YtbmbcfnlpbbapagDoor
