/-
  What filesCopy of the program does: the same files in a row of its own.
-/
import Derived.Test.YtbmbcfnlpbbapagDoorInOrder
import Derived.WalkKit
import Derived.WalkSpells
import Derived.WalkLawsBesides
namespace Go.Proofs.YtbmbcfnlpbbapagDoor
open Go.RowKit

set_option maxRecDepth 100000 in
set_option maxHeartbeats 3200000 in
theorem iCopyS_any (w : World) (a : Option Addr) (len cap : Nat) (fs : List M.FileD) (h : M.Files w a len cap fs) (hs : ∀ f ∈ fs, f.path.size ≤ 100000000 ∧ f.data.size ≤ 100000000) (hlen : len ≤ 1048576) :
    Calls Tryd.prog 35 #[.slice a len cap] w fun e w' => ∃ v, e = .returned v ∧ M.Own w' w.heap.size 31 v fs ∧ Below w.heap.size w w' := by
  obtain ⟨i0, hi, hz0, hz1, hz2⟩ := info_parts Tryd.infoF
  have HFL : Hid (len = fs.length) := h.1
  have HF : Hid (M.Files w a len cap fs) := h
  have HSZ : Hid (∀ f ∈ fs, f.path.size ≤ 100000000 ∧ f.data.size ≤ 100000000) := hs
  clear h hs
  go_enter Tryd.func35, Tryd.ntmps35
  go_wp2
  go_loopw [3, 8] (fun v i wr => ∃ k : Nat, i = .int .i64 k ∧ k ≤ len ∧ Hid (M.Own wr w.heap.size 31 v (fs.take k)) ∧ Hid (Below w.heap.size w wr)) (fun _ i _ => len - (intOf i).toNat)
  case atStart => exact ⟨0, rfl, Nat.zero_le _, World.ownsRow_nil _ _ _ _, Below.refl _ _⟩
  case round =>
    obtain ⟨k, rfl, hk, HOr, HBr⟩ := hrel
    by_cases hlt : k < len
    · have hfl := HFL.out
      obtain ⟨-, -, -, hfa⟩ := HF.out.below HBr.out
      obtain ⟨b, off, rfl, hat⟩ := hfa (by omega)
      obtain ⟨c0, c1, c2, c3, c4⟩ := hat k (by omega)
      have hfk := List.getElem?_eq_getElem (l := fs) (i := k) (by omega)
      generalize fs[k]'(by omega) = c at c0 c1 c2 c3 c4 hfk
      have HFK : Hid (fs[k]? = some c) := hfk
      have hszc := HSZ.out c (List.mem_of_getElem? hfk)
      have hC := fun W => iCopy_any c W hszc.1 hszc.2
      unfold M.fval at hC
      have HC : Hid (∀ W, Calls Tryd.prog 32 #[.agg #[.string c.path, .bool c.dir, .int .i64 c.mode, .int .i64 c.time, .string c.data]] W fun e w' => e = .returned (.agg #[.string c.path, .bool c.dir, .int .i64 c.mode, .int .i64 c.time, .string c.data]) ∧ Below W.heap.size W w') := hC
      have hlk : (fs.take k).length = k := by rw [List.length_take]; omega
      have HLK : Hid ((fs.take k).length = k) := hlk
      clear hfk hat hfa hfl hszc hC hlk
      go_wp2_with fail
      refine (HC.out _).mono ?_
      rintro e w3 ⟨rfl, hb⟩
      have hb3 : Below wr.heap.size wr w3 := M.boxed_below hb
      have hg3 : wr.grownBy w3 none := ⟨hb3.os, hb3.tape, hb3.output, hb3.size, fun k hk _ => hb3.block k hk⟩
      have HO3 : Hid (M.Own w3 w.heap.size 31 u3 (fs.take k)) := World.ownsRow.kept HOr.out hg3 (by cases u3.ownBlock <;> simp)
      have HB3 : Hid (Below w.heap.size w w3) := HBr.out.trans (hb3.mono HBr.out.size)
      clear hb hb3 hg3 c0 c1 c2 c3 c4 HOr HBr
      go_wp2_with (at_builtin; refine wpList_append_own _ rfl (.tmp 12) (.tmp 15) 26 rfl w.heap.size 31 i0 (.agg #[.string ⟨#[]⟩, .bool false, .int .i64 0, .int .i64 0, .string ⟨#[]⟩]) 5 56 Tryd.underlying26 hi hz0 hz1 hz2 rfl (by decide) _ _ _ rfl (World.ownsRow.alloc HO3.out _) ⟨w3.heap.size, 0, none⟩ 1 1 (M.fcells c) rfl rfl (M.five_new _ _ _) ?c2 ?c3 ?c4 ?c5 ?_)
      case c2 => exact M.oneCellF c
      case c3 => have := HLK.out; unfold maxLen; omega
      case c4 => have := HLK.out; omega
      case c5 => have := HB3.out.size; simp; omega
      intro v' w4 hown' hgrow _
      have HO4 : Hid (M.Own w4 w.heap.size 31 v' (fs.take (k + 1))) := by
        show World.ownsRow _ _ _ _ _ _ _
        rw [M.take_snoc_get HFK.out, ← M.cellsF_snoc, List.length_append, List.length_take]; exact hown'
      have hgall : w3.grownBy w4 u3.ownBlock := ((World.grownBy_alloc w3 _ none).but _).trans hgrow
      have HB4 : Hid (Below w.heap.size w w4) := HB3.out.grown hgall HB3.out.size (fun j hj => HO3.out.block j hj)
      clear hown' hgrow hgall HO3 HB3
      go_wp2
      go_roundw
      case rel => exact ⟨k + 1, by go_num, by omega, HO4, HB4⟩
      case measure => simp [intOf]; omega
    · have HT : Hid (M.Own wr w.heap.size 31 u3 fs) := by
        have hfl := HFL.out
        have := HOr.out
        rwa [List.take_of_length_le (by omega)] at this
      go_wp2
      go_ret
      exact ⟨_, rfl, HT.out, HBr.out⟩
end Go.Proofs.YtbmbcfnlpbbapagDoor
