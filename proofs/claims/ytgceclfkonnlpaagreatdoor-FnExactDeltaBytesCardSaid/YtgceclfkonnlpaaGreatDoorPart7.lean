/-
  A row of bytes in memory: an array of bytes that is a block of its own.
-/
import Derived.Test.YtgceclfkonnlpaaGreatDoorRows
import Derived.Test.YtgceclfkonnlpaaGreatDoorPart6
import Derived.WalkKit
import Derived.WalkSpells
import Derived.WalkLawsBesides
import Derived.Deep.WholeRow
import Derived.Deep.MidRow
import Derived.Lib.LazyBuf
import Derived.Lib.SlBuf
namespace Go.Proofs.YtgceclfkonnlpaaGreatDoor
open Go.RowKit

def M.u8 (c : UInt8) : Value := .int .u8 c.toNat
/-- The cells of a block, from its first on, hold these bytes, and may be written. -/
structure M.BRow (w : World) (b : Nat) (L : List UInt8) : Prop where
  cell : ∀ j (h : j < L.length), w.cell? ⟨b, j, none⟩ = some (.int .u8 ((L[j]).toNat : Int))
  free : ∀ j, j < L.length → w.frozen? ⟨b, j, none⟩ = false
  lt : b < w.heap.size
theorem M.BRow.drewN {w : World} {b : Nat} {L : List UInt8} (h : M.BRow w b L) (n : Nat) : M.BRow (w.drewN n) b L :=
  ⟨fun j hj => by rw [World.cell?_drewN]; exact h.cell j hj, fun j hj => by rw [World.frozen?_drewN]; exact h.free j hj, by simpa using h.lt⟩
theorem M.BRow.below {w w' : World} {b : Nat} {L : List UInt8} (h : M.BRow w b L) (hb : Below w.heap.size w w') : M.BRow w' b L :=
  ⟨fun j hj => by rw [hb.cell (p := ⟨b, j, none⟩) h.lt]; exact h.cell j hj, fun j hj => by rw [hb.frozen (p := ⟨b, j, none⟩) h.lt]; exact h.free j hj, Nat.lt_of_lt_of_le h.lt hb.size⟩
theorem M.sumK_L {L : List UInt8} {k : Nat} (h : k < L.length) : M.sumK ⟨L.toArray⟩ (k + 1) = M.sumK ⟨L.toArray⟩ k + M.sumC k L[k] := by
  show _ + M.sumC k (L.getD k 0) = _
  rw [List.getD_eq_getElem?_getD, List.getElem?_eq_getElem h, Option.getD_some]

/-- A block of the type T holds just these bytes. -/
def M.Arr (w : World) (b : Nat) (T : TypeId) (L : List UInt8) : Prop := w.heap[b]? = some (.cells (L.map M.u8).toArray T (0, 0))
namespace M.Arr
variable {w w' : World} {b : Nat} {T : TypeId} {L : List UInt8}
theorem lt (H : M.Arr w b T L) : b < w.heap.size := (Array.getElem?_eq_some_iff.1 H).1
theorem row (H : M.Arr w b T L) : M.BRow w b L := by
  refine ⟨fun j h => ?_, fun j h => ?_, H.lt⟩
  · unfold M.Arr at H; simp [World.cell?, H, h, M.u8]
  · unfold M.Arr at H; simp [World.frozen?, H]
theorem set (H : M.Arr w b T L) (i : Nat) (c : UInt8) : M.Arr (w.setCell ⟨b, i, none⟩ (M.u8 c)) b T (L.set i c) := by
  unfold M.Arr at H ⊢
  simp only [World.setCell, Array.getElem?_modify, H]
  simp [List.map_set]
theorem drewN (H : M.Arr w b T L) (n : Nat) : M.Arr (w.drewN n) b T L := H
theorem below {B : Nat} (H : M.Arr w b T L) (hb : Below B w w') (h : b < B) : M.Arr w' b T L := by
  unfold M.Arr at H ⊢
  rw [hb.block b h]; exact H
theorem setCells : ∀ (X : List UInt8) (o : Nat) (w : World) (L : List UInt8), M.Arr w b T L → o + X.length ≤ L.length → M.Arr (w.setCells b o (X.map M.u8)) b T (M.over L o X)
  | [], o, w, L, H, h => by unfold M.over; simpa [World.setCells] using H
  | c :: X, o, w, L, H, h => by
    rw [List.length_cons] at h
    have ih := setCells X (o + 1) _ _ (H.set o c) (by rw [List.length_set]; omega)
    have e : M.over (L.set o c) (o + 1) X = M.over L o (c :: X) := by
      unfold M.over
      rw [List.drop_set_of_lt (by omega), List.take_add_one, List.take_set_of_le (Nat.le_refl _)]
      rw [List.getElem?_set_self (by omega)]
      simp
      congr 1
      omega
    rw [e] at ih
    exact ih
end M.Arr
theorem M.Arr.there {w : World} {b : Nat} {T : TypeId} {L : List UInt8} (H : M.Arr w b T L) : w.there b 0 L.length := fun j hj => by
  rw [Nat.zero_add]
  exact ⟨by rw [H.row.cell j hj]; rfl, H.row.free j hj⟩
/-- A whole array is stored into a block of as many bytes. -/
theorem M.Arr.store {P : Program} {w : World} {b : Nat} {T : TypeId} {L : List UInt8} (H : M.Arr w b T L) (X : List UInt8) (h : L.length = X.length) :
    ∃ W, (storeCells ⟨b, 0, none⟩ (X.map M.u8)).run P w = .ok () W ∧ M.Arr W b T X ∧ ∀ (B : Nat) (a : World), B ≤ b → Below B a w → Below B a W := by
  have hr := run_storeCells_cells (P := P) b 0 (X.map M.u8) 0 w (fun j hj => by rw [List.length_map, ← h] at hj; simpa using (H.there j hj).1) (fun j hj => by rw [List.length_map, ← h] at hj; simpa using (H.there j hj).2)
    (fun v hv => by obtain ⟨c, _, rfl⟩ := List.mem_map.1 hv; rfl)
  simp only [Nat.add_zero] at hr
  refine ⟨_, hr, ?_, fun B a hB hb => Lib.below_setCells _ hB _ _ hb⟩
  have := M.Arr.setCells X 0 _ _ H (by omega)
  rwa [M.over_all h] at this
theorem M.arr_made (w : World) (T : TypeId) (L : List UInt8) : M.Arr (w.alloc (.cells (L.map M.u8).toArray T)) w.heap.size T L := heap_alloc_last w _
theorem M.one_cell (L : List UInt8) : (L.map M.u8).toArray.all (·.oneCell') = true := by
  apply Array.all_eq_true_iff_forall_mem.2
  intro v hv
  simp only [List.mem_toArray, List.mem_map] at hv
  obtain ⟨c, _, rfl⟩ := hv
  rfl
end Go.Proofs.YtgceclfkonnlpaaGreatDoor

/-
  What l03Octal and Octal of the specification do: digits to the base of eight.
-/
namespace Go.Proofs.YtgceclfkonnlpaaGreatDoor
open Go.RowKit

/-- A block holds just these bytes. -/
def M.Bytes (w : World) (h : Nat) (L : List UInt8) : Prop := w.heap[h]? = some (.cells (L.map M.u8).toArray 5 (0, 0))
theorem M.Bytes.lt {w : World} {h : Nat} {L : List UInt8} (H : M.Bytes w h L) : h < w.heap.size := (Array.getElem?_eq_some_iff.1 H).1
theorem M.Bytes.cell {w : World} {h : Nat} {L : List UInt8} (H : M.Bytes w h L) (i : Nat) (hi : i < L.length) : w.cell? ⟨h, i, none⟩ = some (M.u8 L[i]) := by
  unfold M.Bytes at H
  simp [World.cell?, H, hi]
theorem M.Bytes.free {w : World} {h : Nat} {L : List UInt8} (H : M.Bytes w h L) (i : Nat) : w.frozen? ⟨h, i, none⟩ = false := by
  unfold M.Bytes at H
  simp [World.frozen?, H]
theorem M.Bytes.set {w : World} {h : Nat} {L : List UInt8} (H : M.Bytes w h L) (i : Nat) (c : UInt8) : M.Bytes (w.setCell ⟨h, i, none⟩ (M.u8 c)) h (L.set i c) := by
  unfold M.Bytes at H ⊢
  simp only [World.setCell, Array.getElem?_modify, H]
  simp [List.map_set]
theorem M.Bytes.made {w : World} {base h n : Nat} (H : w.ownsRow base 5 1 (.slice (some ⟨h, 0, none⟩) n n) n (List.replicate n (.int .u8 0))) : M.Bytes w h (List.replicate n 0) := by
  obtain ⟨hl, h0 | ⟨g, cp, cur, hv, hb, hh, hn, hc, hz, ht⟩⟩ := H
  · simp at h0
  · simp only [Value.slice.injEq, Option.some.injEq, Addr.mk.injEq] at hv
    obtain ⟨⟨rfl, _, _⟩, _, rfl⟩ := hv
    unfold M.Bytes
    rw [hh]
    have : cur = ((List.replicate n (0 : UInt8)).map M.u8).toArray := by
      apply Array.toList_inj.1
      rw [List.take_of_length_le (by simp [hz])] at ht
      rw [ht]
      simp [M.u8]
    rw [this]
theorem M.made_zero (z : Value) (n : Nat) : (madeCells #[z] n).toList = List.replicate n z := by
  apply List.ext_getElem
  · simp [madeCells]
  · intro i h1 h2
    simp [madeCells, Nat.mod_one]
theorem M.conv_all {w : World} {h : Nat} {L : List UInt8} (H : M.Bytes w h L) : (convert 61 9 (.slice (some ⟨h, 0, none⟩) L.length L.length)).run Tryz.prog w = .ok (.string ⟨L.toArray⟩) w := by
  refine run_convert_bytes_back w _ _ 5 _ _ L Tryz.underlying61 Tryz.underlying5 Tryz.underlying9 fun j hj => ?_
  rw [Addr.add_lit, Nat.zero_add]
  exact H.cell j hj
theorem Tryz.infoB8 : (Tryz.prog.info? 5).map (fun i => (i.zero, i.size, i.bytes)) = some (some (.int .u8 0), 1, 1) := by kernel_rfl

set_option maxRecDepth 100000 in
set_option maxHeartbeats 1600000 in
theorem sOct_any (n d : Nat) (w : World) (hn : n ≤ 9223372036854775807) (hd : d ≤ 1000) :
    Calls Tryz.prog 103 #[.int .i64 n, .int .i64 d] w fun e w' => e = .returned (.string (M.octB n d)) ∧ Below w.heap.size w w' := by
  obtain ⟨i0, hi, hz0, hz1, hz2⟩ := info_parts Tryz.infoB8
  go_enter Tryz.func103, Tryz.ntmps103
  go_wp2_with (at_make; refine wpList_make_full _ rfl (.tmp 7) (.tmp 7) 61 rfl w.heap.size 5 i0 _ 1 Tryz.underlying61 hi hz0 hz1 .i64 .i64 _ _ d rfl rfl rfl rfl ?c3 ?c4 ?c5 ?_)
  case c3 => rw [hz2]; omega
  case c4 => unfold maxLen; omega
  case c5 => exact Nat.le_refl _
  intro w1 hown hgrow
  rw [M.made_zero] at hown
  have HB1 : Hid (M.Bytes w1 w.heap.size (List.replicate d 0)) := M.Bytes.made hown
  have HW1 : Hid (Below w.heap.size w w1) := ⟨hgrow.os, hgrow.tape, hgrow.output, hgrow.size, fun k hk => hgrow.block k hk (by simp)⟩
  clear hown hgrow
  go_wp2
  go_loopw [0, 6] (fun x y wr => ∃ (k j N : Nat), x = .int .i64 N ∧ y = .int .i64 ((k : Int) - 1) ∧ k + j = d ∧ N ≤ n ∧ Hid (N = n / 8 ^ j) ∧ Hid (M.Bytes wr w.heap.size (List.replicate k 0 ++ M.octT j n)) ∧ Hid (Below w.heap.size w wr)) (fun _ y _ => (intOf y + 1).toNat)
  case atStart => exact ⟨d, 0, n, rfl, by go_num, rfl, Nat.le_refl _, by show _ = _; simp, by show M.Bytes _ _ _; rw [M.octT, List.append_nil]; exact HB1.out, HW1⟩
  case round =>
    obtain ⟨k, j, N, rfl, rfl, hkj, hN, HN, HBr, HWr⟩ := hrel
    cases k with
    | zero =>
      have e0 : ((0 : Nat) : Int) - 1 = -1 := rfl
      rw [e0]
      clear e0
      have hjd : j = d := by omega
      subst hjd
      have hB := HBr.out
      simp only [List.replicate_zero, List.nil_append] at hB
      have hcv := M.conv_all hB
      rw [M.octT_len] at hcv
      by_cases hz : N = 0
      · have hE : Hid (M.octB n j = ⟨(M.octT j n).toArray⟩) := by show _ = _; unfold M.octB; rw [if_pos (by rw [← HN.out]; exact hz)]
        subst hz
        clear hB
        go_wp2
        go_ret
        exact ⟨by rw [hE.out]; rfl, HWr.out⟩
      · have hE : Hid (M.octB n j = ⟨#[]⟩) := by show _ = _; unfold M.octB; rw [if_neg (by rw [← HN.out]; exact hz)]
        have hp : 0 < N := by omega
        clear hB hcv hz
        go_wp2
        go_ret
        exact ⟨by rw [hE.out]; rfl, HWr.out⟩
    | succ m =>
      have e0 : ((m + 1 : Nat) : Int) - 1 = (m : Int) := by omega
      rw [e0]
      clear e0
      have hmd : (m : Int) < (d : Int) := by omega
      obtain ⟨c, hc⟩ : ∃ c, c = UInt8.ofNat (48 + N % 8) := ⟨_, rfl⟩
      have hcn : (c.toNat : Int) = 48 + (N : Int) % 8 := by
        rw [hc, UInt8.toNat_ofNat', Nat.mod_eq_of_lt (show 48 + N % 8 < 2 ^ 8 by omega)]; omega
      have hset := HBr.out.set m c
      rw [M.set_oct m j n c (by rw [hc, HN.out])] at hset
      unfold M.u8 at hset
      rw [hcn] at hset
      have HB2 : Hid (M.Bytes (wr.setCell ⟨w.heap.size, m, none⟩ (.int .u8 (48 + (N : Int) % 8))) w.heap.size (List.replicate m 0 ++ M.octT (j + 1) n)) := hset
      have g0 := HBr.out.cell m (by simp; omega)
      have f0 := HBr.out.free m
      generalize M.u8 _ = v0 at g0
      have HN2 : Hid (N / 8 = n / 8 ^ (j + 1)) := by show _ = _; rw [HN.out, M.div_step]
      have HW2 : Hid (Below w.heap.size w (wr.setCell ⟨w.heap.size, m, none⟩ (.int .u8 (48 + (N : Int) % 8)))) := HWr.out.setCell (Nat.le_refl _) _
      clear hset hcn hc HBr HWr
      go_wp2
      go_roundw
      case rel => exact ⟨m, j + 1, N / 8, by go_num, by go_num, by omega, by omega, HN2, HB2, HW2⟩
      case measure => simp [intOf]
end Go.Proofs.YtgceclfkonnlpaaGreatDoor
