/-
  What l06Fits of the specification does.
-/
import Derived.Test.YtgppdhfhcnkfpaaRows
import Derived.Test.YtgppdhfhcnkfpaaPart1
import Derived.WalkKit
import Derived.WalkSpells
import Derived.WalkLawsBesides
namespace Go.Proofs.Ytgppdhfhcnkfpaa
open Go.RowKit

set_option maxRecDepth 100000 in
set_option maxHeartbeats 800000 in
theorem sFits_any (w : World) (a : Option Addr) (len cap : Nat) (ss : List ByteArray) (h : M.Strs w a len cap ss) (hok : ∀ s ∈ ss, s.size ≤ maxLen) :
    Calls Try.prog 51 #[.slice a len cap] w fun e w' => e = .returned (.bool (M.fits ss)) ∧ w = w' := by
  have hlm : len ≤ 9223372036854775807 := by obtain ⟨_, h1, h2, _⟩ := h; unfold maxLen at h2; omega
  have HN : Hid (len = ss.length) := h.1
  have HF := M.hl h
  have HOK := M.hl hok
  clear h hok
  by_cases hb : 300 < len
  · rw [M.fits_long (by have := HN.out; omega)]
    have d1 : decide (300 < (len : Int)) = true := decide_eq_true (by omega)
    go_enter Try.func51, Try.ntmps51
    go_wp2
    go_ret
    exact ⟨rfl, rfl⟩
  have d1 : decide (300 < (len : Int)) = false := decide_eq_false (by omega)
  go_enter Try.func51, Try.ntmps51
  go_wp2
  go_loop [3] (fun i => ∃ k : Nat, i = .int .i64 k ∧ k ≤ len ∧ Hid (∀ s ∈ ss.take k, s.size ≤ 64)) (fun i => len - (intOf i).toNat)
  case atStart => exact ⟨0, rfl, Nat.zero_le _, fun f hf => by simp at hf⟩
  case round =>
    obtain ⟨k, rfl, hk, HA⟩ := hrel
    by_cases hlt : k < len
    · obtain ⟨hfl, _, _, hfa⟩ := HF.out
      obtain ⟨b, off, rfl, hat⟩ := hfa (by omega)
      have c0 := hat k (by omega)
      have hfk := List.getElem?_eq_getElem (l := ss) (i := k) (by omega)
      generalize ss[k]'(by omega) = s at c0 hfk
      have HFK := M.hl hfk
      have o1 : s.size ≤ 9223372036854775807 := by have := HOK.out s (List.mem_of_getElem? hfk); unfold maxLen at this; omega
      clear hfk hat hfa hfl
      by_cases hs : 64 < s.size
      · have HE : Hid (M.fits ss = false) := M.fits_bad HFK.out hs
        have d2 : decide (64 < (s.size : Int)) = true := decide_eq_true (by omega)
        go_wp2
        go_ret
        exact ⟨by rw [HE.out]; rfl, rfl⟩
      · have HA2 : Hid (∀ s ∈ ss.take (k + 1), s.size ≤ 64) := M.forall_snoc (p := fun s => s.size ≤ 64) HA.out HFK.out (by omega)
        have d2 : decide (64 < (s.size : Int)) = false := decide_eq_false (by omega)
        go_wp2
        go_round
        case rel => exact ⟨k + 1, by go_num, by omega, HA2⟩
        case measure => simp [intOf]; omega
    · have HE : Hid (M.fits ss = true) := by
        have hn := HN.out
        have hall : ss.take k = ss := List.take_of_length_le (by omega)
        have := HA.out
        rw [hall] at this
        exact M.fits_ok (by omega) this
      go_wp2
      go_ret
      exact ⟨by rw [HE.out]; rfl, rfl⟩
end Go.Proofs.Ytgppdhfhcnkfpaa
