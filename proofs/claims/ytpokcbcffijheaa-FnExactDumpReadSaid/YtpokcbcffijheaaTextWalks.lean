/-
  What 'joined' and PutText of the program, and PutText of the specification do.
-/
import Derived.Test.YtpokcbcffijheaaNumWalks
import Derived.Test.YtpokcbcffijheaaJoinedWalk
namespace Go.Proofs.Ytpokcbcffijheaa
open Go.RowKit


set_option maxRecDepth 100000 in
set_option maxHeartbeats 800000 in
theorem iPutText_any (s : ByteArray) (w : World) (hs : s.size ≤ maxLen) :
    Calls Try.prog 35 #[.string s] w fun e w' => e = .returned (.string (M.putText s)) ∧ Below w.heap.size w w' := by
  unfold maxLen at hs
  by_cases h : 20000 < s.size
  · have hE : Hid (M.putText s = ⟨#[]⟩) := M.putText_big h
    go_enter Try.func35, Try.ntmps35
    go_wp2
    go_ret
    exact ⟨by rw [hE.out]; rfl, Below.refl _ _⟩
  · have hE : Hid (M.putText s = ⟨(M.enc (M.foldZ (s.size : Int))).toArray⟩ ++ s) := M.putText_small h
    have hz := M.enc_size (M.foldZ (s.size : Int))
    go_enter Try.func35, Try.ntmps35
    go_wp2_with (first | (go_at_call 34; refine (iPutNum_any _ _ (by omega) (by omega)).mono ?_; rintro e w1 ⟨rfl, hb1⟩) | (go_at_call 68; refine (joined_any _ _ _ (by omega) (by omega)).mono ?_; rintro e w2 ⟨rfl, hb2⟩))
    go_ret
    exact ⟨by rw [hE.out]; rfl, hb1.trans (hb2.mono hb1.size)⟩

set_option maxRecDepth 100000 in
set_option maxHeartbeats 800000 in
theorem sPutText_any (s : ByteArray) (w : World) (hs : s.size ≤ maxLen) :
    Calls Try.prog 38 #[.string s] w fun e w' => e = .returned (.string (M.putText s)) ∧ Below w.heap.size w w' := by
  unfold maxLen at hs
  by_cases h : 20000 < s.size
  · have hE : Hid (M.putText s = ⟨#[]⟩) := M.putText_big h
    go_enter Try.func38, Try.ntmps38
    go_wp2
    go_ret
    exact ⟨by rw [hE.out]; rfl, Below.refl _ _⟩
  · have hE : Hid (M.putText s = ⟨(M.enc (M.foldZ (s.size : Int))).toArray⟩ ++ s) := M.putText_small h
    have hz := M.enc_size (M.foldZ (s.size : Int))
    have had := fun W => run_string_add_sum (P := Try.prog) (w := W) ⟨(M.enc (M.foldZ (s.size : Int))).toArray⟩ s (by omega)
    go_enter Try.func38, Try.ntmps38
    go_wp2_with (first | (go_at_call 37; refine (sPutNum_any _ _ (by omega) (by omega)).mono ?_; rintro e w1 ⟨rfl, hb1⟩))
    go_ret
    exact ⟨by rw [hE.out]; rfl, hb1⟩

end Go.Proofs.Ytpokcbcffijheaa
