/-
  What l07Blocks of the specification does.
-/
import Derived.Test.YtappficbjjkmiaaPart12
import Derived.Test.YtappficbjjkmiaaPart6
namespace Go.Proofs.Ytappficbjjkmiaa
open Go.RowKit

theorem Try.make64 (w : World) : (Instr.makeSlice 22 (.int .i64 64) (.int .i64 64)).run Try.prog w = .ok (.slice (some ⟨w.heap.size, 0, none⟩) 64 64) (w.alloc (.cells M.zer64 5)) := by kernel_rfl
/-- A text copied into a row of 64 bytes 0 that was just made. -/
theorem M.made_copy (w : World) (x : ByteArray) : ∃ W z, (Builtin.copy_ #[22, 9] 3 #[.slice (some ⟨w.heap.size, 0, none⟩) 64 64, .string x]).run Try.prog (w.alloc (.cells M.zer64 5)) = .ok z W
    ∧ M.Arr W w.heap.size 5 (M.padL x.data.toList) ∧ Below w.heap.size w W := by
  have H : M.Arr (w.alloc (.cells M.zer64 5)) w.heap.size 5 (List.replicate 64 0) := M.arr_made w 5 (List.replicate 64 0)
  have hm : Nat.min x.size (List.replicate 64 (0 : UInt8)).length = Nat.min x.size 64 := by rw [List.length_replicate]
  obtain ⟨W, h1, h2, h3⟩ := M.copy_min H x _ hm 3
  rw [List.length_replicate] at h1
  refine ⟨W, _, h1, ?_, h3 _ _ (Nat.le_refl _) ((Below.refl _ _).alloc (Nat.le_refl _) _)⟩
  rw [M.padL_copy _ _ (by rw [M.lenL])] at h2
  exact h2

set_option maxRecDepth 100000 in
set_option maxHeartbeats 800000 in
theorem sBlocks_any (s : ByteArray) (w : World) (hs : s.size ≤ 20000) :
    Calls Try.prog 78 #[.string s] w fun e w' => ∃ v, e = .returned v ∧ M.OwnS w' w.heap.size v (M.tbl s ((s.size + 63) / 64)) ∧ Below w.heap.size w w' := by
  obtain ⟨i0, hi, hz0, hz1, hz2⟩ := info_parts Try.infoTx
  have hmk := Try.make64
  have HE : Hid (M.OwnS (w.alloc (.cells #[] 9)) w.heap.size (.slice (some ⟨w.heap.size, 0, none⟩) 0 0) []) := M.empty_row w 9 w.heap.size (Nat.le_refl _)
  go_enter Try.func78, Try.ntmps78
  go_wp2
  go_loopw [3, 4] (fun p r wr => ∃ (k : Nat), r = .int .i64 ((64 * k : Nat) : Int) ∧ 64 * k < s.size + 64 ∧ Hid (M.OwnS wr w.heap.size p (M.tbl s k)) ∧ Hid (Below w.heap.size w wr)) (fun _ r _ => s.size + 64 - (intOf r).toNat)
  case atStart => exact ⟨0, rfl, by omega, HE.out, (Below.refl _ _).alloc (Nat.le_refl _) _⟩
  case round =>
    obtain ⟨k, rfl, hk, HO, HBr⟩ := hrel
    have hac : (M.tbl s k).length = k := M.tbl_len s k
    have hsz := HBr.out.size
    by_cases hlt : 64 * k < s.size
    · have d1 : decide (((64 * k : Nat) : Int) < (s.size : Int)) = true := decide_eq_true (by omega)
      have hsl : ∀ W, (Instr.slice 9 (.string s) (some (.int .i64 ((64 * k : Nat) : Int))) none none).run Try.prog W = .ok (.string (s.extract (64 * k) s.size)) W := fun W => by
        have e := run_slice_string_l (P := Try.prog) (w := W) (t := 9) (s := s) Try.underlying9 .i64 ((64 * k : Nat) : Int) (by omega) (by omega)
        exact e
      obtain ⟨W, z, hcp, hA, hB⟩ := M.made_copy wr (s.extract (64 * k) s.size)
      rw [M.cut_rest, M.cut_list] at hA
      have hcv := M.row_conv hA (M.padL_len _)
      obtain ⟨y, hy⟩ : ∃ y : ByteArray, y = ⟨(M.padL (s.data.toList.drop (64 * k))).toArray⟩ := ⟨_, rfl⟩
      rw [← hy] at hcv
      have HY := M.hl hy
      have HB := M.hl hB
      have hW : wr.heap.size ≤ W.heap.size := hB.size
      have O5 := M.OwnS.below HO.out hB
      unfold M.OwnS at O5
      rw [hac] at O5
      clear hA hB hy
      go_wp2_with (at_builtin; refine wpList_append_own _ rfl (.tmp 19) (.tmp 22) 34 rfl w.heap.size 9 i0 (.string ⟨#[]⟩) 1 16 Try.underlying34 hi hz0 hz1 hz2 rfl (by decide) _ _ _ rfl (World.ownsRow.alloc O5 _) ⟨W.heap.size, 0, none⟩ 1 1 [.string y] rfl rfl (M.one_n _ _ _) ?c2 ?c3 ?c4 ?c5 ?_)
      case c2 => exact M.oneCellS y
      case c3 => unfold maxLen; omega
      case c4 => omega
      case c5 => simp; omega
      intro v' w6 hown' hgrow _
      have HO6 : Hid (M.OwnS w6 w.heap.size v' (M.tbl s (k + 1))) := by
        show M.OwnS _ _ _ _
        rw [M.tbl_snoc, ← HY.out]
        exact M.OwnS.more (by rw [hac]; exact hown')
      have hgall : W.grownBy w6 _ := ((World.grownBy_alloc W _ none).but _).trans hgrow
      have HB6 : Hid (Below w.heap.size w w6) := (HBr.out.trans (HB.out.mono hsz)).grown hgall (Nat.le_trans hsz hW) (fun j hj => (World.ownsRow.lt O5 j hj).1)
      clear hown' hgrow hgall O5 hcv
      go_wp2
      go_roundw
      case rel => exact ⟨k + 1, by go_num, by omega, HO6, HB6⟩
      case measure => simp [intOf]; omega
    · have d1 : decide (((64 * k : Nat) : Int) < (s.size : Int)) = false := decide_eq_false (by omega)
      go_wp2
      go_ret
      exact ⟨_, rfl, by rw [show (s.size + 63) / 64 = k by omega]; exact HO.out, HBr.out⟩
end Go.Proofs.Ytappficbjjkmiaa
