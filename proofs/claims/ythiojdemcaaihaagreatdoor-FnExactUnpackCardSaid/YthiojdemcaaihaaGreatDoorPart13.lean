/-
  Facts on bytes, for buffers of them.
-/
import Derived.Test.YthiojdemcaaihaaGreatDoorRows
import Derived.Test.YthiojdemcaaihaaGreatDoorJoined
namespace Go.Proofs.YthiojdemcaaihaaGreatDoor
open Go.RowKit

theorem Tryz.infoB : (Tryz.prog.info? 5).map (fun i => (i.zero, i.size, i.bytes)) = some (some (.int .u8 0), 1, 1) := by kernel_rfl
theorem Tryz.sizeB (w : World) : (Go.sizeOf 5).run Tryz.prog w = .ok 1 w := by kernel_rfl
end Go.Proofs.YthiojdemcaaihaaGreatDoor

/-
  What 'pieceOf' of the program does: a copy of a piece of a text.
-/
namespace Go.Proofs.YthiojdemcaaihaaGreatDoor
open Go.RowKit

theorem M.extract_size (s : ByteArray) (f t : Nat) (h : f ≤ t) (h2 : t ≤ s.size) : (s.extract f t).size = t - f := by
  rw [ByteArray.size_extract]; omega
theorem M.data_back (s : ByteArray) : (⟨s.data.toList.toArray⟩ : ByteArray) = s := by
  cases s; rfl

set_option maxRecDepth 100000 in
set_option maxHeartbeats 800000 in
theorem pieceOf_any (s : ByteArray) (f t : Nat) (w : World) (hs : s.size ≤ 1099511627776) (h1 : f ≤ t) (h2 : t ≤ s.size) :
    Calls Tryz.prog 50 #[.string s, .int .i64 f, .int .i64 t] w fun e w' => e = .returned (.string (s.extract f t)) ∧ Below w.heap.size w w' := by
  obtain ⟨i0, hi, hz0, hz1, hz2⟩ := info_parts Tryz.infoB
  have hsz := M.extract_size s f t h1 h2
  have HZ : Hid ((s.extract f t).size = t - f) := hsz
  clear hsz
  go_enter Tryz.func50, Tryz.ntmps50
  go_wp2_with (at_make; refine wpList_make_full _ rfl (.tmp 10) (.tmp 10) 52 rfl w.heap.size 5 i0 (.int .u8 0) 1 Tryz.underlying52 hi hz0 hz1 .i64 .i64 _ _ (t - f) rfl rfl ?c1 ?c2 ?c3 ?c4 ?c5 ?_)
  case c1 => omega
  case c2 => omega
  case c3 => rw [hz2]; omega
  case c4 => unfold maxLen; omega
  case c5 => exact Nat.le_refl _
  intro w1 hown hgrow
  have hbuf := M.buf_made hown hgrow
  obtain ⟨wr1, hr1, hb1⟩ := M.copy_str (P := Tryz.prog) w w1 w.heap.size (t - f) [] (s.extract f t) 52 9 3 5 Tryz.underlying52 Tryz.sizeB hbuf (by rw [HZ.out]; simp)
  rw [show ([] : List UInt8).length = 0 from rfl, Lib.tailV_zero] at hr1
  rw [List.nil_append] at hb1
  have hcv := M.conv_buf Tryz.underlying52 Tryz.underlying5 Tryz.underlying9 hb1 (by rw [← Lib.size_eq, HZ.out])
  rw [M.data_back] at hcv
  have hB : Hid (Below w.heap.size w wr1) := hb1.below
  clear hown hgrow hbuf hb1
  go_wp2
  go_ret
  exact ⟨rfl, hB.out⟩
end Go.Proofs.YthiojdemcaaihaaGreatDoor
