/-
  What 'joined' of the program does: two texts, one behind the other.
-/
import Derived.Test.YtpokcbcffijheaaRows
import Derived.Test.YtpokcbcffijheaaPart10
namespace Go.Proofs.Ytpokcbcffijheaa
open Go.RowKit

set_option maxRecDepth 100000 in
set_option maxHeartbeats 800000 in
theorem joined_any (a b : ByteArray) (w : World) (ha : a.size ≤ 1099511627776) (hb : b.size ≤ 1099511627776) :
    Calls Try.prog 68 #[.string a, .string b] w fun e w' => e = .returned (.string (a ++ b)) ∧ Below w.heap.size w w' := by
  obtain ⟨i0, hi, hz0, hz1, hz2⟩ := info_parts Try.infoB
  have hJ : Hid ((⟨(a.data.toList ++ b.data.toList).toArray⟩ : ByteArray) = a ++ b) := M.bytes_join a b
  go_enter Try.func68, Try.ntmps68
  go_wp2_with (at_make; refine wpList_make_full _ rfl (.tmp 10) (.tmp 10) 22 rfl w.heap.size 5 i0 (.int .u8 0) 1 Try.underlying22 hi hz0 hz1 .i64 .i64 _ _ (a.size + b.size) rfl rfl ?c1 ?c2 ?c3 ?c4 ?c5 ?_)
  case c1 => omega
  case c2 => omega
  case c3 => rw [hz2]; omega
  case c4 => unfold maxLen; omega
  case c5 => exact Nat.le_refl _
  intro w1 hown hgrow
  have hbuf := M.buf_made hown hgrow
  obtain ⟨wr1, hr1, hb1⟩ := M.copy_str (P := Try.prog) w w1 w.heap.size (a.size + b.size) [] a 22 9 3 5 Try.underlying22 Try.sizeB hbuf (by simp)
  rw [show ([] : List UInt8).length = 0 from rfl, Lib.tailV_zero] at hr1
  rw [List.nil_append] at hb1
  obtain ⟨wr2, hr2, hb2⟩ := M.copy_str (P := Try.prog) w wr1 w.heap.size (a.size + b.size) a.data.toList b 22 9 3 5 Try.underlying22 Try.sizeB hb1 (by rw [← Lib.size_eq]; omega)
  rw [← Lib.size_eq] at hr2
  have hsl := fun W => Lib.run_slice_tailV (P := Try.prog) W 22 5 Try.underlying22 Try.sizeB w.heap.size (a.size + b.size) a.size (by omega)
  have hcv := M.conv_buf Try.underlying22 Try.underlying5 Try.underlying9 hb2 (by rw [List.length_append, ← Lib.size_eq, ← Lib.size_eq])
  have hB : Hid (Below w.heap.size w wr2) := hb2.below
  clear hown hgrow hbuf hb1 hb2
  go_wp2
  go_ret
  exact ⟨by rw [← hJ.out]; rfl, hB.out⟩

end Go.Proofs.Ytpokcbcffijheaa
