/-
  What l02Place of the specification does: where a search for a path among files ends, and whether it is there.
-/
import Derived.Test.YtbmbcfnlpbbapagDoorTreeMath
import Derived.Test.YtbmbcfnlpbbapagDoorFileWalks
import Derived.WalkKit
import Derived.WalkSpells
import Derived.WalkLawsBesides
import Derived.Sort.Walk0
namespace Go.Proofs.YtbmbcfnlpbbapagDoor
open Go.RowKit

theorem M.FilesAt.below {w w' : World} {b off : Nat} {fs : List M.FileD} (h : M.FilesAt w b off fs) (hb : Below w.heap.size w w') : M.FilesAt w' b off fs := by
  intro i hi
  have hlt : b < w.heap.size := World.block_lt_of_cell? w _ (h i hi).1
  exact M.FilesAt.of_block h (hb.block b hlt) i hi
theorem M.less_yes {a b : ByteArray} (h : M.ltB a b) : Op.bytesLess a.toList b.toList = true := by
  rw [Proofs.bytesLess_eq, ByteArray.toList_eq, ByteArray.toList_eq]
  exact decide_eq_true h
theorem M.less_no {a b : ByteArray} (h : ¬ M.ltB a b) : Op.bytesLess a.toList b.toList = false := by
  rw [Proofs.bytesLess_eq, ByteArray.toList_eq, ByteArray.toList_eq]
  exact decide_eq_false h
theorem M.place_hit {fs : List M.FileD} {p : ByteArray} {k : Nat} {f : M.FileD} (hk : fs[k]? = some f) (hl : ∀ j (_ : j < k) (h : j < fs.length), M.ltB fs[j].path p) (h : ¬ M.ltB f.path p) : M.Place fs p k := by
  obtain ⟨h1, rfl⟩ := List.getElem?_eq_some_iff.1 hk
  exact ⟨by omega, hl, fun _ => h⟩
theorem M.there_hit {fs : List M.FileD} {p : ByteArray} {k : Nat} {f : M.FileD} (hk : fs[k]? = some f) : M.There fs p k ↔ f.path = p := by
  obtain ⟨h1, rfl⟩ := List.getElem?_eq_some_iff.1 hk
  exact ⟨fun ⟨_, h⟩ => h, fun h => ⟨h1, h⟩⟩

set_option maxRecDepth 100000 in
set_option maxHeartbeats 1600000 in
theorem sPlace_any (w : World) (a : Option Addr) (len cap : Nat) (fs : List M.FileD) (p : ByteArray) (h : M.Files w a len cap fs) :
    Calls Tryd.prog 27 #[.slice a len cap, .string p] w fun e w' => ∃ (k : Nat) (v : Bool), e = .returned (.tuple #[.int .i64 k, .bool v]) ∧ M.Place fs p k ∧ (v = true ↔ M.There fs p k) ∧ Below w.heap.size w w' := by
  have hlm : len ≤ 9223372036854775807 := by obtain ⟨_, h1, h2, _⟩ := h; unfold maxLen at h2; omega
  have hfl : len = fs.length := h.1
  have HFL : Hid (len = fs.length) := hfl
  have HF : Hid (M.Files w a len cap fs) := h
  clear h hfl
  go_enter Tryd.func27, Tryd.ntmps27
  go_wp2
  go_loopw [6] (fun i wr => ∃ k : Nat, i = .int .i64 k ∧ k ≤ len ∧ Hid (∀ j (_ : j < k) (h : j < fs.length), M.ltB fs[j].path p) ∧ Hid (Below w.heap.size w wr)) (fun i _ => len - (intOf i).toNat)
  case atStart => exact ⟨0, rfl, Nat.zero_le _, fun j hj => absurd hj (Nat.not_lt_zero _), Below.refl _ _⟩
  case round =>
    obtain ⟨k, rfl, hk, HL, HBr⟩ := hrel
    by_cases hlt : k < len
    · have hfl := HFL.out
      obtain ⟨-, -, -, hfa⟩ := HF.out.below HBr.out
      obtain ⟨b, off, rfl, hat⟩ := hfa (by omega)
      obtain ⟨c0, c1, c2, c3, c4⟩ := hat k (by omega)
      have d0 : decide ((k : Int) < (len : Int)) = true := decide_eq_true (by omega)
      have hfk := List.getElem?_eq_getElem (l := fs) (i := k) (by omega)
      generalize fs[k]'(by omega) = f at c0 c1 c2 c3 c4 hfk
      have HFK : Hid (fs[k]? = some f) := hfk
      clear hfk hat hfa c1 c2 c3 c4 hfl
      by_cases hl : M.ltB f.path p
      · have HL2 : Hid (∀ j (_ : j < k + 1) (h : j < fs.length), M.ltB fs[j].path p) := fun j hj h => by
          by_cases e : j = k
          · subst e
            obtain ⟨_, hx⟩ := List.getElem?_eq_some_iff.1 HFK.out
            rw [hx]; exact hl
          · exact HL.out j (by omega) h
        have hb := M.less_yes hl
        clear hl HL
        go_wp2
        go_roundw
        case rel => exact ⟨k + 1, by go_num, by omega, HL2, HBr⟩
        case measure => simp [intOf]; omega
      · have HP : Hid (M.Place fs p k) := M.place_hit HFK.out HL.out hl
        have HX : Hid (M.There fs p k ↔ f.path = p) := M.there_hit HFK.out
        have hb := M.less_no hl
        clear hl HL HFK
        cases hq : (f.path.toList == p.toList)
        · have HNE : Hid (f.path ≠ p) := fun e => by rw [e] at hq; simp at hq
          go_wp2
          go_region
          all_goals
            go_wp2
            go_ret2
            exact ⟨k, false, rfl, HP.out, ⟨fun h => by simp at h, fun h => absurd (HX.out.1 h) HNE.out⟩, HBr.out.drew⟩
        · have HEQ : Hid (f.path = p) := M.bytes_eq (by simpa using hq)
          go_wp2
          go_region
          all_goals
            go_wp2
            go_ret2
            exact ⟨k, true, rfl, HP.out, ⟨fun _ => HX.out.2 HEQ.out, fun _ => rfl⟩, HBr.out.drew⟩
    · have d0 : decide ((k : Int) < (len : Int)) = false := decide_eq_false (by omega)
      have hfl := HFL.out
      have HP : Hid (M.Place fs p k) := ⟨by omega, HL.out, fun h => absurd h (by omega)⟩
      have HX : Hid (¬ M.There fs p k) := fun ⟨h, _⟩ => absurd h (by omega)
      clear HL hfl
      go_wp2
      go_region
      all_goals
        go_wp2
        go_ret2
        exact ⟨k, false, rfl, HP.out, ⟨fun h => by simp at h, fun h => absurd h HX.out⟩, HBr.out.drew⟩
end Go.Proofs.YtbmbcfnlpbbapagDoor
