/-
  What blocksFor, zeroBlocks, filledUp, nameIn and kindOf of the program do.
-/
import Derived.Test.YtbmbcfnlpbbapahDoorPackMath
import Derived.Test.YtbmbcfnlpbbapahDoorSOct
import Derived.Test.YtbmbcfnlpbbapahDoorFileRight
namespace Go.Proofs.YtbmbcfnlpbbapahDoor
open Go.RowKit

theorem M.s1i {a w v : World} (h : Below a.heap.size a w) (h' : Below w.heap.size w v) : Below a.heap.size a v := h.trans (h'.mono h.size)
theorem M.ret_int {k : IntKind} {a b : Int} (h : a = b) : Ending.returned (.int k a) = .returned (.int k b) := by rw [h]
theorem M.zer_ext (k n : Nat) (_ : n ≤ k) : (M.zerosB k).extract n k = M.zerosB (k - n) := by
  apply ByteArray.ext
  unfold M.zerosB
  rw [ByteArray.data_extract]
  apply Array.ext'
  simp
theorem M.blocks_fill (n : Nat) : (n + 511) / 512 * 512 - n = M.fillN n := by unfold M.fillN; omega

set_option maxRecDepth 100000 in
set_option maxHeartbeats 400000 in
theorem iBlocks_any (n : Nat) (w : World) (h : n ≤ 100000000000) :
    Calls Tryd.prog 64 #[.int .i64 n] w fun e w' => e = .returned (.int .i64 ((n + 511) / 512 : Nat)) ∧ w = w' := by
  go_enter Tryd.func64, Tryd.ntmps64
  go_wp2
  go_ret
  exact ⟨M.ret_int (by omega), rfl⟩

set_option maxRecDepth 100000 in
set_option maxHeartbeats 800000 in
theorem iZBlocks_any (n : Nat) (w : World) (hn : n ≤ 1000) :
    Calls Tryd.prog 28 #[.int .i64 n] w fun e w' => e = .returned (.string (M.zerosB (n * 512))) ∧ Below w.heap.size w w' := by
  obtain ⟨i0, hi, hz0, hz1, hz2⟩ := info_parts (show (Tryd.prog.info? 5).map (fun i => (i.zero, i.size, i.bytes)) = some (some (.int .u8 0), 1, 1) by kernel_rfl)
  go_enter Tryd.func28, Tryd.ntmps28
  go_wp2_with (at_make; refine wpList_make_full _ rfl _ _ 40 rfl w.heap.size 5 i0 _ 1 Tryd.underlying40 hi hz0 hz1 .i64 .i64 _ _ (n * 512) rfl rfl ?c1 ?c2 ?c3 ?c4 ?c5 ?_)
  case c1 => omega
  case c2 => omega
  case c3 => rw [hz2]; omega
  case c4 => unfold maxLen; omega
  case c5 => exact Nat.le_refl _
  intro w1 hown hgrow
  rw [M.made_zero] at hown
  have hcv := M.conv_all (M.Bytes.made hown)
  rw [List.length_replicate] at hcv
  have HW1 : Hid (Below w.heap.size w w1) := ⟨hgrow.os, hgrow.tape, hgrow.output, hgrow.size, fun k hk => hgrow.block k hk (by simp)⟩
  clear hown hgrow
  have hE : Hid ((⟨(List.replicate (n * 512) 0).toArray⟩ : ByteArray) = M.zerosB (n * 512)) := rfl
  generalize (⟨(List.replicate (n * 512) 0).toArray⟩ : ByteArray) = z at hcv hE
  go_wp2
  go_ret
  exact ⟨by rw [← hE.out]; rfl, HW1.out⟩

set_option maxRecDepth 100000 in
set_option maxHeartbeats 800000 in
theorem iFill_any (t : ByteArray) (w : World) (h : t.size ≤ 100000) :
    Calls Tryd.prog 48 #[.string t] w fun e w' => e = .returned (.string (M.fillB t)) ∧ Below w.heap.size w w' := by
  have HB : Hid (Calls Tryd.prog 64 #[.int .i64 t.size] w fun e w' => e = .returned (.int .i64 ((t.size + 511) / 512 : Nat)) ∧ w = w') := iBlocks_any t.size w (by omega)
  obtain ⟨q, hq⟩ : ∃ q, q = (t.size + 511) / 512 := ⟨_, rfl⟩
  rw [← hq] at HB
  have hq1 : q * 512 - t.size = M.fillN t.size := by rw [hq]; exact M.blocks_fill _
  have hq2 : t.size ≤ q * 512 := by rw [hq]; omega
  have hq3 : q ≤ 1000 := by rw [hq]; omega
  have HZ : Hid (Calls Tryd.prog 28 #[.int .i64 q] w fun e w' => e = .returned (.string (M.zerosB (q * 512))) ∧ Below w.heap.size w w') := iZBlocks_any q w hq3
  have hz : (M.zerosB (q * 512)).size = q * 512 := M.zerosB_size _
  have HE : Hid (t ++ (M.zerosB (q * 512)).extract t.size (q * 512) = M.fillB t) := by show _ = _; rw [M.zer_ext _ _ hq2, hq1]; rfl
  clear hq
  go_enter Tryd.func48, Tryd.ntmps48
  go_wp2_with fail
  refine HB.out.mono ?_
  rintro e w1 ⟨rfl, rfl⟩
  go_wp2_with fail
  refine HZ.out.mono ?_
  rintro e w2 ⟨rfl, hb⟩
  have HB2 : Hid (Below w.heap.size w w2) := hb
  generalize M.zerosB (q * 512) = z at hz HE ⊢
  clear hb hq1
  go_wp2
  go_ret
  exact ⟨by rw [← HE.out]; rfl, HB2.out⟩

set_option maxRecDepth 100000 in
set_option maxHeartbeats 400000 in
theorem iName_any (path : ByteArray) (dir : Bool) (m n : Int) (data : ByteArray) (w : World) (hp : path.size ≤ 150) :
    Calls Tryd.prog 45 #[.agg #[.string path, .bool dir, .int .i64 m, .int .i64 n, .string data]] w fun e w' => e = .returned (.string (M.fullB path dir)) ∧ Below w.heap.size w w' := by
  cases dir
  all_goals
    go_enter Tryd.func45, Tryd.ntmps45
    go_wp2
    go_ret
    exact ⟨rfl, (Below.refl _ _).alloc (Nat.le_refl _) _⟩
set_option maxRecDepth 100000 in
set_option maxHeartbeats 400000 in
theorem iKind_any (path : ByteArray) (dir : Bool) (m n : Int) (data : ByteArray) (w : World) :
    Calls Tryd.prog 47 #[.agg #[.string path, .bool dir, .int .i64 m, .int .i64 n, .string data]] w fun e w' => e = .returned (.int .i64 (M.kindN dir : Nat)) ∧ Below w.heap.size w w' := by
  cases dir
  all_goals
    go_enter Tryd.func47, Tryd.ntmps47
    go_wp2
    go_ret
    exact ⟨rfl, (Below.refl _ _).alloc (Nat.le_refl _) _⟩
end Go.Proofs.YtbmbcfnlpbbapahDoor
