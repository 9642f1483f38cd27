/-
  A row of bytes in memory: an array of bytes that is a block of its own.
-/
import Derived.Test.YtappficbjjkmiaaRows
import Derived.Test.YtappficbjjkmiaaPart9
import Derived.WalkKit
import Derived.WalkSpells
import Derived.WalkLawsBesides
import Derived.Deep.WholeRow
import Derived.Deep.MidRow
import Derived.Lib.LazyBuf
import Derived.Lib.SlBuf
namespace Go.Proofs.Ytappficbjjkmiaa
open Go.RowKit

def M.u8 (c : UInt8) : Value := .int .u8 c.toNat
/-- The cells of a block, from its first on, hold these bytes, and may be written. -/
structure M.BRow (w : World) (b : Nat) (L : List UInt8) : Prop where
  cell : ∀ j (h : j < L.length), w.cell? ⟨b, j, none⟩ = some (.int .u8 ((L[j]).toNat : Int))
  free : ∀ j, j < L.length → w.frozen? ⟨b, j, none⟩ = false
  lt : b < w.heap.size
theorem M.BRow.drewN {w : World} {b : Nat} {L : List UInt8} (h : M.BRow w b L) (n : Nat) : M.BRow (w.drewN n) b L :=
  ⟨fun j hj => by rw [World.cell?_drewN]; exact h.cell j hj, fun j hj => by rw [World.frozen?_drewN]; exact h.free j hj, by simpa using h.lt⟩
theorem M.BRow.below {w w' : World} {b : Nat} {L : List UInt8} (h : M.BRow w b L) (hb : Below w.heap.size w w') : M.BRow w' b L :=
  ⟨fun j hj => by rw [hb.cell (p := ⟨b, j, none⟩) h.lt]; exact h.cell j hj, fun j hj => by rw [hb.frozen (p := ⟨b, j, none⟩) h.lt]; exact h.free j hj, Nat.lt_of_lt_of_le h.lt hb.size⟩
theorem M.sumK_L {L : List UInt8} {k : Nat} (h : k < L.length) : M.sumK ⟨L.toArray⟩ (k + 1) = M.sumK ⟨L.toArray⟩ k + M.sumC k L[k] := by
  show _ + M.sumC k (L.getD k 0) = _
  rw [List.getD_eq_getElem?_getD, List.getElem?_eq_getElem h, Option.getD_some]

/-- A block of the type T holds just these bytes. -/
def M.Arr (w : World) (b : Nat) (T : TypeId) (L : List UInt8) : Prop := w.heap[b]? = some (.cells (L.map M.u8).toArray T (0, 0))
namespace M.Arr
variable {w w' : World} {b : Nat} {T : TypeId} {L : List UInt8}
theorem lt (H : M.Arr w b T L) : b < w.heap.size := (Array.getElem?_eq_some_iff.1 H).1
theorem row (H : M.Arr w b T L) : M.BRow w b L := by
  refine ⟨fun j h => ?_, fun j h => ?_, H.lt⟩
  · unfold M.Arr at H; simp [World.cell?, H, h, M.u8]
  · unfold M.Arr at H; simp [World.frozen?, H]
theorem set (H : M.Arr w b T L) (i : Nat) (c : UInt8) : M.Arr (w.setCell ⟨b, i, none⟩ (M.u8 c)) b T (L.set i c) := by
  unfold M.Arr at H ⊢
  simp only [World.setCell, Array.getElem?_modify, H]
  simp [List.map_set]
theorem drewN (H : M.Arr w b T L) (n : Nat) : M.Arr (w.drewN n) b T L := H
theorem below {B : Nat} (H : M.Arr w b T L) (hb : Below B w w') (h : b < B) : M.Arr w' b T L := by
  unfold M.Arr at H ⊢
  rw [hb.block b h]; exact H
theorem setCells : ∀ (X : List UInt8) (o : Nat) (w : World) (L : List UInt8), M.Arr w b T L → o + X.length ≤ L.length → M.Arr (w.setCells b o (X.map M.u8)) b T (M.over L o X)
  | [], o, w, L, H, h => by unfold M.over; simpa [World.setCells] using H
  | c :: X, o, w, L, H, h => by
    rw [List.length_cons] at h
    have ih := setCells X (o + 1) _ _ (H.set o c) (by rw [List.length_set]; omega)
    have e : M.over (L.set o c) (o + 1) X = M.over L o (c :: X) := by
      unfold M.over
      rw [List.drop_set_of_lt (by omega), List.take_add_one, List.take_set_of_le (Nat.le_refl _)]
      rw [List.getElem?_set_self (by omega)]
      simp
      congr 1
      omega
    rw [e] at ih
    exact ih
end M.Arr
theorem M.Arr.there {w : World} {b : Nat} {T : TypeId} {L : List UInt8} (H : M.Arr w b T L) : w.there b 0 L.length := fun j hj => by
  rw [Nat.zero_add]
  exact ⟨by rw [H.row.cell j hj]; rfl, H.row.free j hj⟩
/-- A whole array is stored into a block of as many bytes. -/
theorem M.Arr.store {P : Program} {w : World} {b : Nat} {T : TypeId} {L : List UInt8} (H : M.Arr w b T L) (X : List UInt8) (h : L.length = X.length) :
    ∃ W, (storeCells ⟨b, 0, none⟩ (X.map M.u8)).run P w = .ok () W ∧ M.Arr W b T X ∧ ∀ (B : Nat) (a : World), B ≤ b → Below B a w → Below B a W := by
  have hr := run_storeCells_cells (P := P) b 0 (X.map M.u8) 0 w (fun j hj => by rw [List.length_map, ← h] at hj; simpa using (H.there j hj).1) (fun j hj => by rw [List.length_map, ← h] at hj; simpa using (H.there j hj).2)
    (fun v hv => by obtain ⟨c, _, rfl⟩ := List.mem_map.1 hv; rfl)
  simp only [Nat.add_zero] at hr
  refine ⟨_, hr, ?_, fun B a hB hb => Lib.below_setCells _ hB _ _ hb⟩
  have := M.Arr.setCells X 0 _ _ H (by omega)
  rwa [M.over_all h] at this
theorem M.arr_made (w : World) (T : TypeId) (L : List UInt8) : M.Arr (w.alloc (.cells (L.map M.u8).toArray T)) w.heap.size T L := heap_alloc_last w _
theorem M.one_cell (L : List UInt8) : (L.map M.u8).toArray.all (·.oneCell') = true := by
  apply Array.all_eq_true_iff_forall_mem.2
  intro v hv
  simp only [List.mem_toArray, List.mem_map] at hv
  obtain ⟨c, _, rfl⟩ := hv
  rfl
end Go.Proofs.Ytappficbjjkmiaa

/-
  An array of 64 bytes 0.
-/
namespace Go.Proofs.Ytappficbjjkmiaa
open Go.RowKit
/-- The cells of 64 bytes 0. -/
def M.zer64 : Array Value := ((List.replicate 64 (0 : UInt8)).map M.u8).toArray
theorem Try.infoB64 : (Try.prog.info? 108).map (fun i => (i.zero, i.size)) = some (some (.agg M.zer64), 64) := by kernel_rfl
theorem Try.infoU : (Try.prog.info? 5).map (fun i => (i.zero, i.size)) = some (some (.int .u8 0), 1) := by kernel_rfl
end Go.Proofs.Ytappficbjjkmiaa

/-
  A text copied into a row of bytes: as many bytes as the row has, or the text.
-/
namespace Go.Proofs.Ytappficbjjkmiaa
open Go.RowKit

theorem M.copy_min {w : World} {b : Nat} {T : TypeId} {L : List UInt8} (H : M.Arr w b T L) (s : ByteArray) (m : Nat) (hm : Nat.min s.size L.length = m) (ty : TypeId) :
    ∃ W, (Builtin.copy_ #[22, 9] ty #[.slice (some ⟨b, 0, none⟩) L.length L.length, .string s]).run Try.prog w = .ok (goInt m) W ∧ M.Arr W b T (s.data.toList.take m ++ L.drop m) ∧ ∀ (B : Nat) (a : World), B ≤ b → Below B a w → Below B a W := by
  have hml : m ≤ L.length := by rw [← hm]; exact Nat.min_le_right _ _
  have hms : m ≤ s.data.toList.length := by rw [← hm, ← Lib.size_eq]; exact Nat.min_le_left _ _
  have hX : (s.data.toList.take m).length = m := by rw [List.length_take]; omega
  have hr := run_storeCells_cells (P := Try.prog) b 0 ((s.data.toList.take m).map M.u8) 0 w (fun j hj => by rw [List.length_map, hX] at hj; simpa using (H.there j (by omega)).1) (fun j hj => by rw [List.length_map, hX] at hj; simpa using (H.there j (by omega)).2)
    (fun v hv => by obtain ⟨c, _, rfl⟩ := List.mem_map.1 hv; rfl)
  simp only [Nat.add_zero] at hr
  have htk : List.take m (List.map (fun b : UInt8 => Value.int IntKind.u8 (b.toNat : Int)) s.data.toList) = (s.data.toList.take m).map M.u8 := by rw [← List.map_take]; rfl
  refine ⟨w.setCells b 0 ((s.data.toList.take m).map M.u8), ?_, ?_, fun B a hB hb => Lib.below_setCells _ hB _ _ hb⟩
  · have hq := Try.infoU
    cases hi : Try.prog.info? 5 with
    | none => rw [hi] at hq; simp at hq
    | some i =>
      rw [hi] at hq
      simp at hq
      simp [Builtin.copy_, run_underlying Try.underlying22, Builtin.lenOf, Builtin.firstCells, sizeOf, typeInfo, hi, hm]
      rw [htk, hr]
      simp [Result.andThen]
  · have := M.Arr.setCells (s.data.toList.take m) 0 _ _ H (by omega)
    unfold M.over at this
    rw [hX] at this
    simpa using this
end Go.Proofs.Ytappficbjjkmiaa
