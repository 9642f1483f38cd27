/-
  What l03Zeros of the specification does.
-/
import Derived.Test.YtbmbcfnlpbbapahDoorSOct
import Derived.Test.YtbmbcfnlpbbapahDoorSSum
import Derived.WalkKit
import Derived.WalkSpells
import Derived.WalkLawsBesides
import Derived.Lib.SlBuf
namespace Go.Proofs.YtbmbcfnlpbbapahDoor
open Go.RowKit

set_option maxRecDepth 100000 in
set_option maxHeartbeats 800000 in
theorem sZeros_any (n : Nat) (w : World) (hn : n ≤ 100000) :
    Calls Tryd.prog 37 #[.int .i64 n] w fun e w' => e = .returned (.string (M.zerosB n)) ∧ Below w.heap.size w w' := by
  obtain ⟨i0, hi, hz0, hz1, hz2⟩ := info_parts Tryd.infoB8
  go_enter Tryd.func37, Tryd.ntmps37
  go_wp2_with (at_make; refine wpList_make_full _ rfl _ _ 40 rfl w.heap.size 5 i0 _ 1 Tryd.underlying40 hi hz0 hz1 .i64 .i64 _ _ n rfl rfl rfl rfl ?c3 ?c4 ?c5 ?_)
  case c3 => rw [hz2]; omega
  case c4 => unfold maxLen; omega
  case c5 => exact Nat.le_refl _
  intro w1 hown hgrow
  rw [M.made_zero] at hown
  have hcv := M.conv_all (M.Bytes.made hown)
  rw [List.length_replicate] at hcv
  have HW1 : Hid (Below w.heap.size w w1) := ⟨hgrow.os, hgrow.tape, hgrow.output, hgrow.size, fun k hk => hgrow.block k hk (by simp)⟩
  clear hown hgrow
  have hE : Hid ((⟨(List.replicate n 0).toArray⟩ : ByteArray) = M.zerosB n) := rfl
  generalize (⟨(List.replicate n 0).toArray⟩ : ByteArray) = z at hcv hE
  go_wp2
  go_ret
  exact ⟨by rw [← hE.out]; rfl, HW1.out⟩
end Go.Proofs.YtbmbcfnlpbbapahDoor
