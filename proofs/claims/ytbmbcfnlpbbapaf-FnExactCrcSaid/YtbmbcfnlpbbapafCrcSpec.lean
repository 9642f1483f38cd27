/-
  Crc and CrcMore of the specification.
-/
import Derived.Test.YtbmbcfnlpbbapafCrcBase
namespace Go.Proofs.Ytbmbcfnlpbbapaf
open Go.RowKit


set_option maxRecDepth 100000 in
set_option maxHeartbeats 800000 in
theorem sCrcMore_any (crc : Int) (s : ByteArray) (w : World) (h1 : -9223372036854775808 ≤ crc) (h2 : crc ≤ 9223372036854775807) (hs : s.size ≤ maxLen) :
    Calls Try.prog 11 #[.int .i64 crc, .string s] w fun e w' => e = .returned (.int .i64 (M.crcMore crc s)) ∧ w = w' := by
  unfold maxLen at hs
  by_cases ha : 20000 < s.size
  · have hE : Hid (M.crcMore crc s = 0) := M.crcMore_no (.inl ha)
    have d1 : decide ((20000 : Int) < (s.size : Int)) = true := decide_eq_true (by omega)
    go_enter Try.func11, Try.ntmps11
    go_wp2
    go_ret
    exact ⟨by rw [hE.out]; rfl, rfl⟩
  by_cases hb : crc < 0
  · have hE : Hid (M.crcMore crc s = 0) := M.crcMore_no (.inr (.inl hb))
    have d1 : decide ((20000 : Int) < (s.size : Int)) = false := decide_eq_false (by omega)
    have d2 : decide (crc < 0) = true := decide_eq_true (by omega)
    go_enter Try.func11, Try.ntmps11
    go_wp2
    go_ret
    exact ⟨by rw [hE.out]; rfl, rfl⟩
  by_cases hc : 4294967295 < crc
  · have hE : Hid (M.crcMore crc s = 0) := M.crcMore_no (.inr (.inr hc))
    have d1 : decide ((20000 : Int) < (s.size : Int)) = false := decide_eq_false (by omega)
    have d2 : decide (crc < 0) = false := decide_eq_false (by omega)
    have d3 : decide (4294967295 < crc) = true := decide_eq_true (by omega)
    go_enter Try.func11, Try.ntmps11
    go_wp2
    go_ret
    exact ⟨by rw [hE.out]; rfl, rfl⟩
  obtain ⟨c, rfl⟩ := Int.eq_ofNat_of_zero_le (show 0 ≤ crc by omega)
  rw [M.crcMore_yes (by omega)]
  have d1 : decide ((20000 : Int) < (s.size : Int)) = false := decide_eq_false (by omega)
  have d2 : decide ((c : Int) < 0) = false := decide_eq_false (by omega)
  have d3 : decide ((4294967295 : Int) < (c : Int)) = false := decide_eq_false (by omega)
  go_enter Try.func11, Try.ntmps11
  go_wp2_with (go_at_call 17; refine (sCrc_in c s _ (by omega) (by omega)).mono ?_; rintro e w' ⟨rfl, rfl⟩)
  go_ret
  exact ⟨rfl, rfl⟩

set_option maxHeartbeats 400000 in
theorem sCrc_any (s : ByteArray) (w : World) (hs : s.size ≤ maxLen) :
    Calls Try.prog 9 #[.string s] w fun e w' => e = .returned (.int .i64 (M.crcMore 0 s)) ∧ w = w' := by
  unfold maxLen at hs
  by_cases ha : 20000 < s.size
  · have hE : Hid (M.crcMore 0 s = 0) := M.crcMore_no (.inl ha)
    go_enter Try.func9, Try.ntmps9
    go_wp2
    go_ret
    exact ⟨by rw [hE.out]; rfl, rfl⟩
  · rw [M.crcMore_yes (by omega)]
    go_enter Try.func9, Try.ntmps9
    go_wp2_with (go_at_call 17; refine (sCrc_in 0 s _ (by omega) (by omega)).mono ?_; rintro e w' ⟨rfl, rfl⟩)
    go_ret
    exact ⟨rfl, rfl⟩

end Go.Proofs.Ytbmbcfnlpbbapaf
