/-
  What tapeBlocks of the program does.
-/
import Derived.Test.YtappficbjjkmiaaPcsMath
import Derived.Test.YtappficbjjkmiaaOwnStr
import Derived.Test.YtappficbjjkmiaaPart10
namespace Go.Proofs.Ytappficbjjkmiaa
open Go.RowKit

/-- The first 64 bytes; bytes 0 behind them where there are fewer. -/
def M.padL (L : List UInt8) : List UInt8 := L.take 64 ++ List.replicate (64 - L.length) 0
theorem M.padL_len (L : List UInt8) : (M.padL L).length = 64 := by
  unfold M.padL
  rw [List.length_append, List.length_take, List.length_replicate]
  omega
/-- The first blocks of a text. -/
def M.tbl (s : ByteArray) (k : Nat) : List ByteArray := (List.range k).map fun i => ⟨(M.padL (s.data.toList.drop (64 * i))).toArray⟩
theorem M.tbl_len (s : ByteArray) (k : Nat) : (M.tbl s k).length = k := by simp [M.tbl]
theorem M.tbl_snoc (s : ByteArray) (k : Nat) : M.tbl s (k + 1) = M.tbl s k ++ [⟨(M.padL (s.data.toList.drop (64 * k))).toArray⟩] := by simp [M.tbl, List.range_succ]
theorem M.padL_copy (L : List UInt8) (m : Nat) (h : Nat.min L.length 64 = m) : L.take m ++ (List.replicate 64 (0 : UInt8)).drop m = M.padL L := by
  unfold M.padL
  rw [List.drop_replicate]
  rcases Nat.le_total L.length 64 with h1 | h1
  · have : m = L.length := by rw [← h]; exact Nat.min_eq_left h1
    rw [this, List.take_length, List.take_of_length_le h1]
  · have : m = 64 := by rw [← h]; exact Nat.min_eq_right h1
    rw [this, show 64 - L.length = 64 - 64 by omega]
theorem M.cut_rest (s : ByteArray) (i : Nat) : s.extract i s.size = M.cut s i s.size := by rw [M.extract_eq]; rfl
theorem M.cut_list (s : ByteArray) (i : Nat) : (M.cut s i s.size).data.toList = s.data.toList.drop i := by
  unfold M.cut
  show (s.data.toList.drop i).take (s.size - i) = _
  rw [List.take_of_length_le]
  rw [List.length_drop, M.lenL]
  omega
theorem M.row_conv {w : World} {b : Nat} {T : TypeId} {L : List UInt8} (H : M.Arr w b T L) (hL : L.length = 64) :
    (convert 22 9 (.slice (some ⟨b, 0, none⟩) 64 64)).run Try.prog w = .ok (.string ⟨L.toArray⟩) w := by
  have := run_convert_bytes_back w 22 9 5 ⟨b, 0, none⟩ 64 L Try.underlying22 Try.underlying5 Try.underlying9 (fun i hi => by
    rw [Addr.add_lit, Nat.zero_add]
    exact H.row.cell i hi)
  rw [hL] at this
  exact this
/-- A text copied into a new block of 64 bytes 0. -/
theorem M.block_copy (w : World) (x : ByteArray) : ∃ W z, (Builtin.copy_ #[22, 9] 3 #[.slice (some ⟨w.heap.size, 0, none⟩) 64 64, .string x]).run Try.prog (w.alloc (.cells M.zer64 108)).drew = .ok z W
    ∧ M.Arr W w.heap.size 108 (M.padL x.data.toList) ∧ Below w.heap.size w W := by
  have H : M.Arr (w.alloc (.cells M.zer64 108)).drew w.heap.size 108 (List.replicate 64 0) := (M.arr_made w 108 (List.replicate 64 0)).drewN 1
  have hm : Nat.min x.size (List.replicate 64 (0 : UInt8)).length = Nat.min x.size 64 := by rw [List.length_replicate]
  obtain ⟨W, h1, h2, h3⟩ := M.copy_min H x _ hm 3
  rw [List.length_replicate] at h1
  refine ⟨W, _, h1, ?_, h3 _ _ (Nat.le_refl _) (((Below.refl _ _).alloc (Nat.le_refl _) _).drew)⟩
  rw [M.padL_copy _ _ (by rw [M.lenL])] at h2
  exact h2

set_option maxRecDepth 100000 in
set_option maxHeartbeats 800000 in
theorem iTBlocks_any (s : ByteArray) (w : World) (hs : s.size ≤ 20000) :
    Calls Try.prog 51 #[.string s] w fun e w' => ∃ v, e = .returned v ∧ M.OwnS w' w.heap.size v (M.tbl s ((s.size + 63) / 64)) ∧ Below w.heap.size w w' := by
  obtain ⟨i0, hi, hz0, hz1, hz2⟩ := info_parts Try.infoTx
  have hz := (zero_of_info Try.infoB64).1
  go_enter Try.func51, Try.ntmps51
  go_wp2
  go_loopw [3, 4] (fun p r wr => ∃ (k : Nat), r = .int .i64 ((64 * k : Nat) : Int) ∧ 64 * k < s.size + 64 ∧ Hid (M.OwnS wr w.heap.size p (M.tbl s k)) ∧ Hid (Below w.heap.size w wr)) (fun _ r _ => s.size + 64 - (intOf r).toNat)
  case atStart => exact ⟨0, rfl, by omega, M.OwnS.nil _ _, Below.refl _ _⟩
  case round =>
    obtain ⟨k, rfl, hk, HO, HBr⟩ := hrel
    have hac : (M.tbl s k).length = k := M.tbl_len s k
    have hsz := HBr.out.size
    by_cases hlt : 64 * k < s.size
    · have d1 : decide (((64 * k : Nat) : Int) < (s.size : Int)) = true := decide_eq_true (by omega)
      obtain ⟨W, z, hcp, hA, hB⟩ := M.block_copy wr (s.extract (64 * k) s.size)
      rw [M.cut_rest, M.cut_list] at hA
      have hcv := M.row_conv hA (M.padL_len _)
      obtain ⟨y, hy⟩ : ∃ y : ByteArray, y = ⟨(M.padL (s.data.toList.drop (64 * k))).toArray⟩ := ⟨_, rfl⟩
      rw [← hy] at hcv
      have HY := M.hl hy
      have HB := M.hl hB
      have hW : wr.heap.size ≤ W.heap.size := hB.size
      have O5 := M.OwnS.below HO.out hB
      unfold M.OwnS at O5
      rw [hac] at O5
      clear hA hB hy
      go_wp2_with fail
      go_region
      clear hcp
      go_wp2_with (at_builtin; refine wpList_append_own _ rfl (.tmp 17) (.tmp 20) 34 rfl w.heap.size 9 i0 (.string ⟨#[]⟩) 1 16 Try.underlying34 hi hz0 hz1 hz2 rfl (by decide) _ _ _ rfl (World.ownsRow.alloc O5 _) ⟨W.heap.size, 0, none⟩ 1 1 [.string y] rfl rfl (M.one_n _ _ _) ?c2 ?c3 ?c4 ?c5 ?_)
      case c2 => exact M.oneCellS y
      case c3 => unfold maxLen; omega
      case c4 => omega
      case c5 => simp; omega
      intro v' w6 hown' hgrow _
      have HO6 : Hid (M.OwnS w6 w.heap.size v' (M.tbl s (k + 1))) := by
        show M.OwnS _ _ _ _
        rw [M.tbl_snoc, ← HY.out]
        exact M.OwnS.more (by rw [hac]; exact hown')
      have hgall : W.grownBy w6 _ := ((World.grownBy_alloc W _ none).but _).trans hgrow
      have HB6 : Hid (Below w.heap.size w w6) := (HBr.out.trans (HB.out.mono hsz)).grown hgall (Nat.le_trans hsz hW) (fun j hj => (World.ownsRow.lt O5 j hj).1)
      clear hown' hgrow hgall O5 hcv
      go_wp2
      go_roundw
      case rel => exact ⟨k + 1, by go_num, by omega, HO6, HB6⟩
      case measure => simp [intOf]; omega
    · have d1 : decide (((64 * k : Nat) : Int) < (s.size : Int)) = false := decide_eq_false (by omega)
      go_wp2
      go_ret
      exact ⟨_, rfl, by rw [show (s.size + 63) / 64 = k by omega]; exact HO.out, HBr.out⟩
end Go.Proofs.Ytappficbjjkmiaa
