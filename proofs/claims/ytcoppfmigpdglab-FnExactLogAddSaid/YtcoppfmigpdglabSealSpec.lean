/-
  Seal of the specification.
-/
import Derived.Test.YtcoppfmigpdglabSealBase
namespace Go.Proofs.Ytcoppfmigpdglab
open Go.RowKit


set_option maxRecDepth 100000 in
set_option maxHeartbeats 800000 in
theorem sSeal_any (s : ByteArray) (w : World) (hs : s.size ≤ maxLen) :
    Calls Try.prog 61 #[.string s] w fun e w' => e = .returned (.string (M.sealT s)) ∧ Below w.heap.size w w' := by
  unfold maxLen at hs
  by_cases h : 19996 < s.size
  · have hE : Hid (M.sealT s = ⟨#[]⟩) := M.sealT_big h
    go_enter Try.func61, Try.ntmps61
    go_wp2
    go_ret
    exact ⟨by rw [hE.out]; rfl, Below.refl _ _⟩
  · have hE : Hid (M.sealT s = s ++ ⟨(M.four (M.crcMore 0 s)).toArray⟩) := M.sealT_small h
    obtain ⟨h0, h9⟩ := M.crcMore_range s
    have hK : ∀ W, Calls Try.prog 90 #[.int .i64 0, .string s] W fun e w' => e = .returned (.int .i64 (M.crcMore 0 s)) ∧ W = w' := fun W => by
      rw [M.crcMore_yes (by omega)]; exact sCrc_in 0 s W (by omega) (by omega)
    have HK : Hid _ := hK
    clear hK
    have h4 := M.four_size (M.crcMore 0 s)
    have had := fun W => run_string_add_sum (P := Try.prog) (w := W) s ⟨(M.four (M.crcMore 0 s)).toArray⟩ (by omega)
    clear h4
    go_enter Try.func61, Try.ntmps61
    go_wp2_with (first | (go_at_call 90; refine (HK.out _).mono ?_; rintro e w1 ⟨rfl, rfl⟩) | (go_at_call 89; refine (sFour_any _ _ h0 h9).mono ?_; rintro e w2 ⟨rfl, hb2⟩))
    go_ret
    exact ⟨by rw [hE.out]; rfl, hb2⟩

end Go.Proofs.Ytcoppfmigpdglab
