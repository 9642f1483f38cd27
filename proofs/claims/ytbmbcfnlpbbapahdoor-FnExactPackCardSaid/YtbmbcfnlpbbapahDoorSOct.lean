/-
  What l03Octal and Octal of the specification do: digits to the base of eight.
-/
import Derived.Test.YtbmbcfnlpbbapahDoorRows
import Derived.Test.YtbmbcfnlpbbapahDoorArrMath
import Derived.WalkKit
import Derived.WalkSpells
import Derived.WalkLawsBesides
import Derived.Lib.SlBuf
namespace Go.Proofs.YtbmbcfnlpbbapahDoor
open Go.RowKit

/-- A block holds just these bytes. -/
def M.Bytes (w : World) (h : Nat) (L : List UInt8) : Prop := w.heap[h]? = some (.cells (L.map M.u8).toArray 5 (0, 0))
theorem M.Bytes.lt {w : World} {h : Nat} {L : List UInt8} (H : M.Bytes w h L) : h < w.heap.size := (Array.getElem?_eq_some_iff.1 H).1
theorem M.Bytes.cell {w : World} {h : Nat} {L : List UInt8} (H : M.Bytes w h L) (i : Nat) (hi : i < L.length) : w.cell? ⟨h, i, none⟩ = some (M.u8 L[i]) := by
  unfold M.Bytes at H
  simp [World.cell?, H, hi]
theorem M.Bytes.free {w : World} {h : Nat} {L : List UInt8} (H : M.Bytes w h L) (i : Nat) : w.frozen? ⟨h, i, none⟩ = false := by
  unfold M.Bytes at H
  simp [World.frozen?, H]
theorem M.Bytes.set {w : World} {h : Nat} {L : List UInt8} (H : M.Bytes w h L) (i : Nat) (c : UInt8) : M.Bytes (w.setCell ⟨h, i, none⟩ (M.u8 c)) h (L.set i c) := by
  unfold M.Bytes at H ⊢
  simp only [World.setCell, Array.getElem?_modify, H]
  simp [List.map_set]
theorem M.Bytes.made {w : World} {base h n : Nat} (H : w.ownsRow base 5 1 (.slice (some ⟨h, 0, none⟩) n n) n (List.replicate n (.int .u8 0))) : M.Bytes w h (List.replicate n 0) := by
  obtain ⟨hl, h0 | ⟨g, cp, cur, hv, hb, hh, hn, hc, hz, ht⟩⟩ := H
  · simp at h0
  · simp only [Value.slice.injEq, Option.some.injEq, Addr.mk.injEq] at hv
    obtain ⟨⟨rfl, _, _⟩, _, rfl⟩ := hv
    unfold M.Bytes
    rw [hh]
    have : cur = ((List.replicate n (0 : UInt8)).map M.u8).toArray := by
      apply Array.toList_inj.1
      rw [List.take_of_length_le (by simp [hz])] at ht
      rw [ht]
      simp [M.u8]
    rw [this]
theorem M.made_zero (z : Value) (n : Nat) : (madeCells #[z] n).toList = List.replicate n z := by
  apply List.ext_getElem
  · simp [madeCells]
  · intro i h1 h2
    simp [madeCells, Nat.mod_one]
theorem M.conv_all {w : World} {h : Nat} {L : List UInt8} (H : M.Bytes w h L) : (convert 40 9 (.slice (some ⟨h, 0, none⟩) L.length L.length)).run Tryd.prog w = .ok (.string ⟨L.toArray⟩) w := by
  refine run_convert_bytes_back w _ _ 5 _ _ L Tryd.underlying40 Tryd.underlying5 Tryd.underlying9 fun j hj => ?_
  rw [Addr.add_lit, Nat.zero_add]
  exact H.cell j hj
theorem Tryd.infoB8 : (Tryd.prog.info? 5).map (fun i => (i.zero, i.size, i.bytes)) = some (some (.int .u8 0), 1, 1) := by kernel_rfl

set_option maxRecDepth 100000 in
set_option maxHeartbeats 1600000 in
theorem sOct_any (n d : Nat) (w : World) (hn : n ≤ 9223372036854775807) (hd : d ≤ 1000) :
    Calls Tryd.prog 15 #[.int .i64 n, .int .i64 d] w fun e w' => e = .returned (.string (M.octB n d)) ∧ Below w.heap.size w w' := by
  obtain ⟨i0, hi, hz0, hz1, hz2⟩ := info_parts Tryd.infoB8
  go_enter Tryd.func15, Tryd.ntmps15
  go_wp2_with (at_make; refine wpList_make_full _ rfl (.tmp 7) (.tmp 7) 40 rfl w.heap.size 5 i0 _ 1 Tryd.underlying40 hi hz0 hz1 .i64 .i64 _ _ d rfl rfl rfl rfl ?c3 ?c4 ?c5 ?_)
  case c3 => rw [hz2]; omega
  case c4 => unfold maxLen; omega
  case c5 => exact Nat.le_refl _
  intro w1 hown hgrow
  rw [M.made_zero] at hown
  have HB1 : Hid (M.Bytes w1 w.heap.size (List.replicate d 0)) := M.Bytes.made hown
  have HW1 : Hid (Below w.heap.size w w1) := ⟨hgrow.os, hgrow.tape, hgrow.output, hgrow.size, fun k hk => hgrow.block k hk (by simp)⟩
  clear hown hgrow
  go_wp2
  go_loopw [0, 6] (fun x y wr => ∃ (k j N : Nat), x = .int .i64 N ∧ y = .int .i64 ((k : Int) - 1) ∧ k + j = d ∧ N ≤ n ∧ Hid (N = n / 8 ^ j) ∧ Hid (M.Bytes wr w.heap.size (List.replicate k 0 ++ M.octT j n)) ∧ Hid (Below w.heap.size w wr)) (fun _ y _ => (intOf y + 1).toNat)
  case atStart => exact ⟨d, 0, n, rfl, by go_num, rfl, Nat.le_refl _, by show _ = _; simp, by show M.Bytes _ _ _; rw [M.octT, List.append_nil]; exact HB1.out, HW1⟩
  case round =>
    obtain ⟨k, j, N, rfl, rfl, hkj, hN, HN, HBr, HWr⟩ := hrel
    cases k with
    | zero =>
      have e0 : ((0 : Nat) : Int) - 1 = -1 := rfl
      rw [e0]
      clear e0
      have hjd : j = d := by omega
      subst hjd
      have hB := HBr.out
      simp only [List.replicate_zero, List.nil_append] at hB
      have hcv := M.conv_all hB
      rw [M.octT_len] at hcv
      by_cases hz : N = 0
      · have hE : Hid (M.octB n j = ⟨(M.octT j n).toArray⟩) := by show _ = _; unfold M.octB; rw [if_pos (by rw [← HN.out]; exact hz)]
        subst hz
        clear hB
        go_wp2
        go_ret
        exact ⟨by rw [hE.out]; rfl, HWr.out⟩
      · have hE : Hid (M.octB n j = ⟨#[]⟩) := by show _ = _; unfold M.octB; rw [if_neg (by rw [← HN.out]; exact hz)]
        have hp : 0 < N := by omega
        clear hB hcv hz
        go_wp2
        go_ret
        exact ⟨by rw [hE.out]; rfl, HWr.out⟩
    | succ m =>
      have e0 : ((m + 1 : Nat) : Int) - 1 = (m : Int) := by omega
      rw [e0]
      clear e0
      have hmd : (m : Int) < (d : Int) := by omega
      obtain ⟨c, hc⟩ : ∃ c, c = UInt8.ofNat (48 + N % 8) := ⟨_, rfl⟩
      have hcn : (c.toNat : Int) = 48 + (N : Int) % 8 := by
        rw [hc, UInt8.toNat_ofNat', Nat.mod_eq_of_lt (show 48 + N % 8 < 2 ^ 8 by omega)]; omega
      have hset := HBr.out.set m c
      rw [M.set_oct m j n c (by rw [hc, HN.out])] at hset
      unfold M.u8 at hset
      rw [hcn] at hset
      have HB2 : Hid (M.Bytes (wr.setCell ⟨w.heap.size, m, none⟩ (.int .u8 (48 + (N : Int) % 8))) w.heap.size (List.replicate m 0 ++ M.octT (j + 1) n)) := hset
      have g0 := HBr.out.cell m (by simp; omega)
      have f0 := HBr.out.free m
      generalize M.u8 _ = v0 at g0
      have HN2 : Hid (N / 8 = n / 8 ^ (j + 1)) := by show _ = _; rw [HN.out, M.div_step]
      have HW2 : Hid (Below w.heap.size w (wr.setCell ⟨w.heap.size, m, none⟩ (.int .u8 (48 + (N : Int) % 8)))) := HWr.out.setCell (Nat.le_refl _) _
      clear hset hcn hc HBr HWr
      go_wp2
      go_roundw
      case rel => exact ⟨m, j + 1, N / 8, by go_num, by go_num, by omega, by omega, HN2, HB2, HW2⟩
      case measure => simp [intOf]
end Go.Proofs.YtbmbcfnlpbbapahDoor
