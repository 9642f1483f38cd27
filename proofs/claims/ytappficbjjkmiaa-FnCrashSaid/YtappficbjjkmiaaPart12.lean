/-
  A row of bytes in memory: an array of bytes that is a block of its own.
-/
import Derived.Test.YtappficbjjkmiaaRows
import Derived.Test.YtappficbjjkmiaaPart11
import Derived.Test.YtappficbjjkmiaaPcsMath
import Derived.Test.YtappficbjjkmiaaPart4
import Derived.WalkKit
import Derived.WalkSpells
import Derived.WalkLawsBesides
import Derived.Deep.WholeRow
import Derived.Deep.MidRow
import Derived.Lib.LazyBuf
import Derived.Lib.SlBuf
namespace Go.Proofs.Ytappficbjjkmiaa
open Go.RowKit

def M.u8 (c : UInt8) : Value := .int .u8 c.toNat
/-- The cells of a block, from its first on, hold these bytes, and may be written. -/
structure M.BRow (w : World) (b : Nat) (L : List UInt8) : Prop where
  cell : ∀ j (h : j < L.length), w.cell? ⟨b, j, none⟩ = some (.int .u8 ((L[j]).toNat : Int))
  free : ∀ j, j < L.length → w.frozen? ⟨b, j, none⟩ = false
  lt : b < w.heap.size
theorem M.BRow.drewN {w : World} {b : Nat} {L : List UInt8} (h : M.BRow w b L) (n : Nat) : M.BRow (w.drewN n) b L :=
  ⟨fun j hj => by rw [World.cell?_drewN]; exact h.cell j hj, fun j hj => by rw [World.frozen?_drewN]; exact h.free j hj, by simpa using h.lt⟩
theorem M.BRow.below {w w' : World} {b : Nat} {L : List UInt8} (h : M.BRow w b L) (hb : Below w.heap.size w w') : M.BRow w' b L :=
  ⟨fun j hj => by rw [hb.cell (p := ⟨b, j, none⟩) h.lt]; exact h.cell j hj, fun j hj => by rw [hb.frozen (p := ⟨b, j, none⟩) h.lt]; exact h.free j hj, Nat.lt_of_lt_of_le h.lt hb.size⟩
theorem M.sumK_L {L : List UInt8} {k : Nat} (h : k < L.length) : M.sumK ⟨L.toArray⟩ (k + 1) = M.sumK ⟨L.toArray⟩ k + M.sumC k L[k] := by
  show _ + M.sumC k (L.getD k 0) = _
  rw [List.getD_eq_getElem?_getD, List.getElem?_eq_getElem h, Option.getD_some]

/-- A block of the type T holds just these bytes. -/
def M.Arr (w : World) (b : Nat) (T : TypeId) (L : List UInt8) : Prop := w.heap[b]? = some (.cells (L.map M.u8).toArray T (0, 0))
namespace M.Arr
variable {w w' : World} {b : Nat} {T : TypeId} {L : List UInt8}
theorem lt (H : M.Arr w b T L) : b < w.heap.size := (Array.getElem?_eq_some_iff.1 H).1
theorem row (H : M.Arr w b T L) : M.BRow w b L := by
  refine ⟨fun j h => ?_, fun j h => ?_, H.lt⟩
  · unfold M.Arr at H; simp [World.cell?, H, h, M.u8]
  · unfold M.Arr at H; simp [World.frozen?, H]
theorem set (H : M.Arr w b T L) (i : Nat) (c : UInt8) : M.Arr (w.setCell ⟨b, i, none⟩ (M.u8 c)) b T (L.set i c) := by
  unfold M.Arr at H ⊢
  simp only [World.setCell, Array.getElem?_modify, H]
  simp [List.map_set]
theorem drewN (H : M.Arr w b T L) (n : Nat) : M.Arr (w.drewN n) b T L := H
theorem below {B : Nat} (H : M.Arr w b T L) (hb : Below B w w') (h : b < B) : M.Arr w' b T L := by
  unfold M.Arr at H ⊢
  rw [hb.block b h]; exact H
theorem setCells : ∀ (X : List UInt8) (o : Nat) (w : World) (L : List UInt8), M.Arr w b T L → o + X.length ≤ L.length → M.Arr (w.setCells b o (X.map M.u8)) b T (M.over L o X)
  | [], o, w, L, H, h => by unfold M.over; simpa [World.setCells] using H
  | c :: X, o, w, L, H, h => by
    rw [List.length_cons] at h
    have ih := setCells X (o + 1) _ _ (H.set o c) (by rw [List.length_set]; omega)
    have e : M.over (L.set o c) (o + 1) X = M.over L o (c :: X) := by
      unfold M.over
      rw [List.drop_set_of_lt (by omega), List.take_add_one, List.take_set_of_le (Nat.le_refl _)]
      rw [List.getElem?_set_self (by omega)]
      simp
      congr 1
      omega
    rw [e] at ih
    exact ih
end M.Arr
theorem M.Arr.there {w : World} {b : Nat} {T : TypeId} {L : List UInt8} (H : M.Arr w b T L) : w.there b 0 L.length := fun j hj => by
  rw [Nat.zero_add]
  exact ⟨by rw [H.row.cell j hj]; rfl, H.row.free j hj⟩
/-- A whole array is stored into a block of as many bytes. -/
theorem M.Arr.store {P : Program} {w : World} {b : Nat} {T : TypeId} {L : List UInt8} (H : M.Arr w b T L) (X : List UInt8) (h : L.length = X.length) :
    ∃ W, (storeCells ⟨b, 0, none⟩ (X.map M.u8)).run P w = .ok () W ∧ M.Arr W b T X ∧ ∀ (B : Nat) (a : World), B ≤ b → Below B a w → Below B a W := by
  have hr := run_storeCells_cells (P := P) b 0 (X.map M.u8) 0 w (fun j hj => by rw [List.length_map, ← h] at hj; simpa using (H.there j hj).1) (fun j hj => by rw [List.length_map, ← h] at hj; simpa using (H.there j hj).2)
    (fun v hv => by obtain ⟨c, _, rfl⟩ := List.mem_map.1 hv; rfl)
  simp only [Nat.add_zero] at hr
  refine ⟨_, hr, ?_, fun B a hB hb => Lib.below_setCells _ hB _ _ hb⟩
  have := M.Arr.setCells X 0 _ _ H (by omega)
  rwa [M.over_all h] at this
theorem M.arr_made (w : World) (T : TypeId) (L : List UInt8) : M.Arr (w.alloc (.cells (L.map M.u8).toArray T)) w.heap.size T L := heap_alloc_last w _
theorem M.one_cell (L : List UInt8) : (L.map M.u8).toArray.all (·.oneCell') = true := by
  apply Array.all_eq_true_iff_forall_mem.2
  intro v hv
  simp only [List.mem_toArray, List.mem_map] at hv
  obtain ⟨c, _, rfl⟩ := hv
  rfl
end Go.Proofs.Ytappficbjjkmiaa

/-
  An array of 64 bytes 0.
-/
namespace Go.Proofs.Ytappficbjjkmiaa
open Go.RowKit
/-- The cells of 64 bytes 0. -/
def M.zer64 : Array Value := ((List.replicate 64 (0 : UInt8)).map M.u8).toArray
theorem Try.infoB64 : (Try.prog.info? 108).map (fun i => (i.zero, i.size)) = some (some (.agg M.zer64), 64) := by kernel_rfl
theorem Try.infoU : (Try.prog.info? 5).map (fun i => (i.zero, i.size)) = some (some (.int .u8 0), 1) := by kernel_rfl
end Go.Proofs.Ytappficbjjkmiaa

/-
  A text copied into a row of bytes: as many bytes as the row has, or the text.
-/
namespace Go.Proofs.Ytappficbjjkmiaa
open Go.RowKit

theorem M.copy_min {w : World} {b : Nat} {T : TypeId} {L : List UInt8} (H : M.Arr w b T L) (s : ByteArray) (m : Nat) (hm : Nat.min s.size L.length = m) (ty : TypeId) :
    ∃ W, (Builtin.copy_ #[22, 9] ty #[.slice (some ⟨b, 0, none⟩) L.length L.length, .string s]).run Try.prog w = .ok (goInt m) W ∧ M.Arr W b T (s.data.toList.take m ++ L.drop m) ∧ ∀ (B : Nat) (a : World), B ≤ b → Below B a w → Below B a W := by
  have hml : m ≤ L.length := by rw [← hm]; exact Nat.min_le_right _ _
  have hms : m ≤ s.data.toList.length := by rw [← hm, ← Lib.size_eq]; exact Nat.min_le_left _ _
  have hX : (s.data.toList.take m).length = m := by rw [List.length_take]; omega
  have hr := run_storeCells_cells (P := Try.prog) b 0 ((s.data.toList.take m).map M.u8) 0 w (fun j hj => by rw [List.length_map, hX] at hj; simpa using (H.there j (by omega)).1) (fun j hj => by rw [List.length_map, hX] at hj; simpa using (H.there j (by omega)).2)
    (fun v hv => by obtain ⟨c, _, rfl⟩ := List.mem_map.1 hv; rfl)
  simp only [Nat.add_zero] at hr
  have htk : List.take m (List.map (fun b : UInt8 => Value.int IntKind.u8 (b.toNat : Int)) s.data.toList) = (s.data.toList.take m).map M.u8 := by rw [← List.map_take]; rfl
  refine ⟨w.setCells b 0 ((s.data.toList.take m).map M.u8), ?_, ?_, fun B a hB hb => Lib.below_setCells _ hB _ _ hb⟩
  · have hq := Try.infoU
    cases hi : Try.prog.info? 5 with
    | none => rw [hi] at hq; simp at hq
    | some i =>
      rw [hi] at hq
      simp at hq
      simp [Builtin.copy_, run_underlying Try.underlying22, Builtin.lenOf, Builtin.firstCells, sizeOf, typeInfo, hi, hm]
      rw [htk, hr]
      simp [Result.andThen]
  · have := M.Arr.setCells (s.data.toList.take m) 0 _ _ H (by omega)
    unfold M.over at this
    rw [hX] at this
    simpa using this
end Go.Proofs.Ytappficbjjkmiaa

/-
  What tapeBlocks of the program does.
-/
namespace Go.Proofs.Ytappficbjjkmiaa
open Go.RowKit

/-- The first 64 bytes; bytes 0 behind them where there are fewer. -/
def M.padL (L : List UInt8) : List UInt8 := L.take 64 ++ List.replicate (64 - L.length) 0
theorem M.padL_len (L : List UInt8) : (M.padL L).length = 64 := by
  unfold M.padL
  rw [List.length_append, List.length_take, List.length_replicate]
  omega
/-- The first blocks of a text. -/
def M.tbl (s : ByteArray) (k : Nat) : List ByteArray := (List.range k).map fun i => ⟨(M.padL (s.data.toList.drop (64 * i))).toArray⟩
theorem M.tbl_len (s : ByteArray) (k : Nat) : (M.tbl s k).length = k := by simp [M.tbl]
theorem M.tbl_snoc (s : ByteArray) (k : Nat) : M.tbl s (k + 1) = M.tbl s k ++ [⟨(M.padL (s.data.toList.drop (64 * k))).toArray⟩] := by simp [M.tbl, List.range_succ]
theorem M.padL_copy (L : List UInt8) (m : Nat) (h : Nat.min L.length 64 = m) : L.take m ++ (List.replicate 64 (0 : UInt8)).drop m = M.padL L := by
  unfold M.padL
  rw [List.drop_replicate]
  rcases Nat.le_total L.length 64 with h1 | h1
  · have : m = L.length := by rw [← h]; exact Nat.min_eq_left h1
    rw [this, List.take_length, List.take_of_length_le h1]
  · have : m = 64 := by rw [← h]; exact Nat.min_eq_right h1
    rw [this, show 64 - L.length = 64 - 64 by omega]
theorem M.cut_rest (s : ByteArray) (i : Nat) : s.extract i s.size = M.cut s i s.size := by rw [M.extract_eq]; rfl
theorem M.cut_list (s : ByteArray) (i : Nat) : (M.cut s i s.size).data.toList = s.data.toList.drop i := by
  unfold M.cut
  show (s.data.toList.drop i).take (s.size - i) = _
  rw [List.take_of_length_le]
  rw [List.length_drop, M.lenL]
  omega
theorem M.row_conv {w : World} {b : Nat} {T : TypeId} {L : List UInt8} (H : M.Arr w b T L) (hL : L.length = 64) :
    (convert 22 9 (.slice (some ⟨b, 0, none⟩) 64 64)).run Try.prog w = .ok (.string ⟨L.toArray⟩) w := by
  have := run_convert_bytes_back w 22 9 5 ⟨b, 0, none⟩ 64 L Try.underlying22 Try.underlying5 Try.underlying9 (fun i hi => by
    rw [Addr.add_lit, Nat.zero_add]
    exact H.row.cell i hi)
  rw [hL] at this
  exact this
/-- A text copied into a new block of 64 bytes 0. -/
theorem M.block_copy (w : World) (x : ByteArray) : ∃ W z, (Builtin.copy_ #[22, 9] 3 #[.slice (some ⟨w.heap.size, 0, none⟩) 64 64, .string x]).run Try.prog (w.alloc (.cells M.zer64 108)).drew = .ok z W
    ∧ M.Arr W w.heap.size 108 (M.padL x.data.toList) ∧ Below w.heap.size w W := by
  have H : M.Arr (w.alloc (.cells M.zer64 108)).drew w.heap.size 108 (List.replicate 64 0) := (M.arr_made w 108 (List.replicate 64 0)).drewN 1
  have hm : Nat.min x.size (List.replicate 64 (0 : UInt8)).length = Nat.min x.size 64 := by rw [List.length_replicate]
  obtain ⟨W, h1, h2, h3⟩ := M.copy_min H x _ hm 3
  rw [List.length_replicate] at h1
  refine ⟨W, _, h1, ?_, h3 _ _ (Nat.le_refl _) (((Below.refl _ _).alloc (Nat.le_refl _) _).drew)⟩
  rw [M.padL_copy _ _ (by rw [M.lenL])] at h2
  exact h2

set_option maxRecDepth 100000 in
set_option maxHeartbeats 800000 in
theorem iTBlocks_any (s : ByteArray) (w : World) (hs : s.size ≤ 20000) :
    Calls Try.prog 51 #[.string s] w fun e w' => ∃ v, e = .returned v ∧ M.OwnS w' w.heap.size v (M.tbl s ((s.size + 63) / 64)) ∧ Below w.heap.size w w' := by
  obtain ⟨i0, hi, hz0, hz1, hz2⟩ := info_parts Try.infoTx
  have hz := (zero_of_info Try.infoB64).1
  go_enter Try.func51, Try.ntmps51
  go_wp2
  go_loopw [3, 4] (fun p r wr => ∃ (k : Nat), r = .int .i64 ((64 * k : Nat) : Int) ∧ 64 * k < s.size + 64 ∧ Hid (M.OwnS wr w.heap.size p (M.tbl s k)) ∧ Hid (Below w.heap.size w wr)) (fun _ r _ => s.size + 64 - (intOf r).toNat)
  case atStart => exact ⟨0, rfl, by omega, M.OwnS.nil _ _, Below.refl _ _⟩
  case round =>
    obtain ⟨k, rfl, hk, HO, HBr⟩ := hrel
    have hac : (M.tbl s k).length = k := M.tbl_len s k
    have hsz := HBr.out.size
    by_cases hlt : 64 * k < s.size
    · have d1 : decide (((64 * k : Nat) : Int) < (s.size : Int)) = true := decide_eq_true (by omega)
      obtain ⟨W, z, hcp, hA, hB⟩ := M.block_copy wr (s.extract (64 * k) s.size)
      rw [M.cut_rest, M.cut_list] at hA
      have hcv := M.row_conv hA (M.padL_len _)
      obtain ⟨y, hy⟩ : ∃ y : ByteArray, y = ⟨(M.padL (s.data.toList.drop (64 * k))).toArray⟩ := ⟨_, rfl⟩
      rw [← hy] at hcv
      have HY := M.hl hy
      have HB := M.hl hB
      have hW : wr.heap.size ≤ W.heap.size := hB.size
      have O5 := M.OwnS.below HO.out hB
      unfold M.OwnS at O5
      rw [hac] at O5
      clear hA hB hy
      go_wp2_with fail
      go_region
      clear hcp
      go_wp2_with (at_builtin; refine wpList_append_own _ rfl (.tmp 17) (.tmp 20) 34 rfl w.heap.size 9 i0 (.string ⟨#[]⟩) 1 16 Try.underlying34 hi hz0 hz1 hz2 rfl (by decide) _ _ _ rfl (World.ownsRow.alloc O5 _) ⟨W.heap.size, 0, none⟩ 1 1 [.string y] rfl rfl (M.one_n _ _ _) ?c2 ?c3 ?c4 ?c5 ?_)
      case c2 => exact M.oneCellS y
      case c3 => unfold maxLen; omega
      case c4 => omega
      case c5 => simp; omega
      intro v' w6 hown' hgrow _
      have HO6 : Hid (M.OwnS w6 w.heap.size v' (M.tbl s (k + 1))) := by
        show M.OwnS _ _ _ _
        rw [M.tbl_snoc, ← HY.out]
        exact M.OwnS.more (by rw [hac]; exact hown')
      have hgall : W.grownBy w6 _ := ((World.grownBy_alloc W _ none).but _).trans hgrow
      have HB6 : Hid (Below w.heap.size w w6) := (HBr.out.trans (HB.out.mono hsz)).grown hgall (Nat.le_trans hsz hW) (fun j hj => (World.ownsRow.lt O5 j hj).1)
      clear hown' hgrow hgall O5 hcv
      go_wp2
      go_roundw
      case rel => exact ⟨k + 1, by go_num, by omega, HO6, HB6⟩
      case measure => simp [intOf]; omega
    · have d1 : decide (((64 * k : Nat) : Int) < (s.size : Int)) = false := decide_eq_false (by omega)
      go_wp2
      go_ret
      exact ⟨_, rfl, by rw [show (s.size + 63) / 64 = k by omega]; exact HO.out, HBr.out⟩
end Go.Proofs.Ytappficbjjkmiaa
