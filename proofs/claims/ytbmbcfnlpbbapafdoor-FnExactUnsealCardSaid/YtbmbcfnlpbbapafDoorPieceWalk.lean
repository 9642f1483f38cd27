/-
  What 'pieceOf' of the program does: a copy of a piece of a text.
-/
import Derived.Test.YtbmbcfnlpbbapafDoorJoinedBase
namespace Go.Proofs.YtbmbcfnlpbbapafDoor
open Go.RowKit

theorem M.extract_size (s : ByteArray) (f t : Nat) (h : f ≤ t) (h2 : t ≤ s.size) : (s.extract f t).size = t - f := by
  rw [ByteArray.size_extract]; omega
theorem M.data_back (s : ByteArray) : (⟨s.data.toList.toArray⟩ : ByteArray) = s := by
  cases s; rfl

set_option maxRecDepth 100000 in
set_option maxHeartbeats 800000 in
theorem pieceOf_any (s : ByteArray) (f t : Nat) (w : World) (hs : s.size ≤ 1099511627776) (h1 : f ≤ t) (h2 : t ≤ s.size) :
    Calls Tryd.prog 17 #[.string s, .int .i64 f, .int .i64 t] w fun e w' => e = .returned (.string (s.extract f t)) ∧ Below w.heap.size w w' := by
  obtain ⟨i0, hi, hz0, hz1, hz2⟩ := info_parts Tryd.infoB
  have hsz := M.extract_size s f t h1 h2
  have HZ : Hid ((s.extract f t).size = t - f) := hsz
  clear hsz
  go_enter Tryd.func17, Tryd.ntmps17
  go_wp2_with (at_make; refine wpList_make_full _ rfl (.tmp 10) (.tmp 10) 50 rfl w.heap.size 5 i0 (.int .u8 0) 1 Tryd.underlying50 hi hz0 hz1 .i64 .i64 _ _ (t - f) rfl rfl ?c1 ?c2 ?c3 ?c4 ?c5 ?_)
  case c1 => omega
  case c2 => omega
  case c3 => rw [hz2]; omega
  case c4 => unfold maxLen; omega
  case c5 => exact Nat.le_refl _
  intro w1 hown hgrow
  have hbuf := M.buf_made hown hgrow
  obtain ⟨wr1, hr1, hb1⟩ := M.copy_str (P := Tryd.prog) w w1 w.heap.size (t - f) [] (s.extract f t) 50 9 3 5 Tryd.underlying50 Tryd.sizeB hbuf (by rw [HZ.out]; simp)
  rw [show ([] : List UInt8).length = 0 from rfl, Lib.tailV_zero] at hr1
  rw [List.nil_append] at hb1
  have hcv := M.conv_buf Tryd.underlying50 Tryd.underlying5 Tryd.underlying9 hb1 (by rw [← Lib.size_eq, HZ.out])
  rw [M.data_back] at hcv
  have hB : Hid (Below w.heap.size w wr1) := hb1.below
  clear hown hgrow hbuf hb1
  go_wp2
  go_ret
  exact ⟨rfl, hB.out⟩
end Go.Proofs.YtbmbcfnlpbbapafDoor
