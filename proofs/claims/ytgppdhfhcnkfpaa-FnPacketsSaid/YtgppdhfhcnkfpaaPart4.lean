/-
  What piecesFit of the program does.
-/
import Derived.Test.YtgppdhfhcnkfpaaRows
import Derived.Test.YtgppdhfhcnkfpaaPart1
import Derived.Test.YtgppdhfhcnkfpaaLinkBox
import Derived.WalkKit
import Derived.WalkSpells
import Derived.WalkLawsBesides
namespace Go.Proofs.Ytgppdhfhcnkfpaa
open Go.RowKit

set_option maxRecDepth 100000 in
set_option maxHeartbeats 800000 in
theorem iFits_any (w : World) (a : Option Addr) (len cap : Nat) (ss : List ByteArray) (h : M.Strs w a len cap ss) (hok : ∀ s ∈ ss, s.size ≤ maxLen) :
    Calls Try.prog 49 #[.slice a len cap] w fun e w' => e = .returned (.bool (M.fits ss)) ∧ w = w' := by
  have hlm : len ≤ 9223372036854775807 := by obtain ⟨_, h1, h2, _⟩ := h; unfold maxLen at h2; omega
  have HN : Hid (len = ss.length) := h.1
  have HF := M.hl h
  have HOK := M.hl hok
  clear h hok
  by_cases hb : 300 < len
  · rw [M.fits_long (by have := HN.out; omega)]
    have d1 : decide (300 < (len : Int)) = true := decide_eq_true (by omega)
    go_enter Try.func49, Try.ntmps49
    go_wp2
    go_ret
    exact ⟨rfl, rfl⟩
  have d1 : decide (300 < (len : Int)) = false := decide_eq_false (by omega)
  go_enter Try.func49, Try.ntmps49
  go_wp2
  go_loop [10] (fun i => ∃ k : Nat, i = .int .i64 k ∧ k ≤ len ∧ Hid (∀ s ∈ ss.take k, s.size ≤ 64)) (fun i => len - (intOf i).toNat)
  case atStart => exact ⟨0, rfl, Nat.zero_le _, fun f hf => by simp at hf⟩
  case round =>
    obtain ⟨k, rfl, hk, HA⟩ := hrel
    by_cases hlt : k < len
    · obtain ⟨hfl, _, _, hfa⟩ := HF.out
      obtain ⟨b, off, rfl, hat⟩ := hfa (by omega)
      have c0 := hat k (by omega)
      have hfk := List.getElem?_eq_getElem (l := ss) (i := k) (by omega)
      generalize ss[k]'(by omega) = s at c0 hfk
      have HFK := M.hl hfk
      have o1 : s.size ≤ 9223372036854775807 := by have := HOK.out s (List.mem_of_getElem? hfk); unfold maxLen at this; omega
      clear hfk hat hfa hfl
      by_cases hs : 64 < s.size
      · have HE : Hid (M.fits ss = false) := M.fits_bad HFK.out hs
        have d2 : decide (64 < (s.size : Int)) = true := decide_eq_true (by omega)
        go_wp2
        go_ret
        exact ⟨by rw [HE.out]; rfl, rfl⟩
      · have HA2 : Hid (∀ s ∈ ss.take (k + 1), s.size ≤ 64) := M.forall_snoc (p := fun s => s.size ≤ 64) HA.out HFK.out (by omega)
        have d2 : decide (64 < (s.size : Int)) = false := decide_eq_false (by omega)
        go_wp2
        go_round
        case rel => exact ⟨k + 1, by go_num, by omega, HA2⟩
        case measure => simp [intOf]; omega
    · have HE : Hid (M.fits ss = true) := by
        have hn := HN.out
        have hall : ss.take k = ss := List.take_of_length_le (by omega)
        have := HA.out
        rw [hall] at this
        exact M.fits_ok (by omega) this
      go_wp2
      go_ret
      exact ⟨by rw [HE.out]; rfl, rfl⟩
end Go.Proofs.Ytgppdhfhcnkfpaa

/-
  What allFull of the program does.
-/
namespace Go.Proofs.Ytgppdhfhcnkfpaa
open Go.RowKit

set_option maxRecDepth 100000 in
set_option maxHeartbeats 800000 in
theorem iFull_any (w : World) (a : Option Addr) (len cap : Nat) (ss : List ByteArray) (h : M.Strs w a len cap ss) (hok : ∀ s ∈ ss, s.size ≤ maxLen) :
    Calls Try.prog 67 #[.slice a len cap] w fun e w' => e = .returned (.bool (M.full ss)) ∧ w = w' := by
  have hlm : len ≤ 9223372036854775807 := by obtain ⟨_, h1, h2, _⟩ := h; unfold maxLen at h2; omega
  have HN : Hid (len = ss.length) := h.1
  have HF := M.hl h
  have HOK := M.hl hok
  clear h hok
  go_enter Try.func67, Try.ntmps67
  go_wp2
  go_loop [7] (fun i => ∃ k : Nat, i = .int .i64 k ∧ k ≤ len ∧ Hid (∀ s ∈ ss.take k, s.size = 64)) (fun i => len - (intOf i).toNat)
  case atStart => exact ⟨0, rfl, Nat.zero_le _, fun f hf => by simp at hf⟩
  case round =>
    obtain ⟨k, rfl, hk, HA⟩ := hrel
    by_cases hlt : k < len
    · obtain ⟨hfl, _, _, hfa⟩ := HF.out
      obtain ⟨b, off, rfl, hat⟩ := hfa (by omega)
      have c0 := hat k (by omega)
      have hfk := List.getElem?_eq_getElem (l := ss) (i := k) (by omega)
      generalize ss[k]'(by omega) = s at c0 hfk
      have HFK := M.hl hfk
      have o1 : s.size ≤ 9223372036854775807 := by have := HOK.out s (List.mem_of_getElem? hfk); unfold maxLen at this; omega
      clear hfk hat hfa hfl
      by_cases hs : s.size = 64
      · have HA2 : Hid (∀ s ∈ ss.take (k + 1), s.size = 64) := M.forall_snoc (p := fun s => s.size = 64) HA.out HFK.out hs
        have d2 : ((s.size : Int) != 64) = false := by rw [bne_eq_false_iff_eq]; omega
        have d3 : ((s.size : Int) == 64) = true := by rw [beq_iff_eq]; omega
        clear hs
        go_wp2
        go_round
        case rel => exact ⟨k + 1, by go_num, by omega, HA2⟩
        case measure => simp [intOf]; omega
      · have HE : Hid (M.full ss = false) := M.full_bad HFK.out hs
        have d2 : ((s.size : Int) != 64) = true := by rw [bne_iff_ne]; omega
        have d3 : ((s.size : Int) == 64) = false := by rw [beq_eq_false_iff_ne]; omega
        clear hs
        go_wp2
        go_ret
        exact ⟨by rw [HE.out]; rfl, rfl⟩
    · have HE : Hid (M.full ss = true) := by
        have hn := HN.out
        have hall : ss.take k = ss := List.take_of_length_le (by omega)
        have := HA.out
        rw [hall] at this
        exact M.full_iff.2 this
      go_wp2
      go_ret
      exact ⟨by rw [HE.out]; rfl, rfl⟩
end Go.Proofs.Ytgppdhfhcnkfpaa

/-
  What ReceiverRight of the program does.
-/
namespace Go.Proofs.Ytgppdhfhcnkfpaa
open Go.RowKit

set_option maxRecDepth 100000 in
set_option maxHeartbeats 800000 in
theorem iRecvR_any (w : World) (a : Option Addr) (n c : Nat) (ss : List ByteArray) (x : Int) (h : M.Strs w a n c ss) (hok : ∀ s ∈ ss, s.size ≤ maxLen) :
    Calls Try.prog 28 #[.agg #[.slice a n c, .int .i64 x]] w fun e w' => e = .returned (.bool (M.rcvR ss x)) ∧ Below w.heap.size w w' := by
  have hlm : n ≤ 9223372036854775807 := by obtain ⟨_, h1, h2, _⟩ := h; unfold maxLen at h2; omega
  have hnc : n ≤ c := h.2.1
  have HB : Hid (∀ o, Below w.heap.size w (w.alloc o)) := fun o => (Below.refl _ _).alloc (Nat.le_refl _) _
  have CF : Hid (∀ o, Calls Try.prog 49 #[.slice a n c] (w.alloc o) fun e w' => e = .returned (.bool (M.fits ss)) ∧ w.alloc o = w') := fun o => iFits_any _ a n c ss (h.below (HB.out o)) hok
  have HN : Hid (n = ss.length) := h.1
  have HF := M.hl h
  have HOK := M.hl hok
  clear h hok
  unfold M.rcvR
  cases hf : M.fits ss
  · rw [hf] at CF
    rw [Bool.false_and]
    clear hf
    go_enter Try.func28, Try.ntmps28
    go_wp2_with fail
    refine (CF.out _).mono ?_
    rintro e w' ⟨rfl, rfl⟩
    go_wp2
    go_ret
    exact ⟨rfl, HB.out _⟩
  rw [hf] at CF
  rw [Bool.true_and]
  clear hf
  by_cases hx : x = -1
  · rw [if_pos hx]
    subst hx
    by_cases hn : n = 0
    · rw [decide_eq_false (by have := HN.out; omega), Bool.false_and]
      subst hn
      go_enter Try.func28, Try.ntmps28
      go_wp2_with fail
      refine (CF.out _).mono ?_
      rintro e w' ⟨rfl, rfl⟩
      go_wp2
      go_ret
      exact ⟨rfl, HB.out _⟩
    · rw [decide_eq_true (by have := HN.out; omega), Bool.true_and]
      have CL : Hid (∀ o, Calls Try.prog 67 #[.slice a (n - 1) c] (w.alloc o) fun e w' => e = .returned (.bool (M.full ss.dropLast)) ∧ w.alloc o = w') := fun o => by
        rw [List.dropLast_eq_take, ← HN.out]
        exact iFull_any _ a (n - 1) c (ss.take (n - 1)) ((HF.out.below (HB.out o)).pre (n - 1) (by omega)) (fun s hs => HOK.out s (List.mem_of_mem_take hs))
      generalize M.full ss.dropLast = r at CL
      obtain ⟨k, rfl⟩ : ∃ k, n = k + 1 := ⟨n - 1, by omega⟩
      rw [Nat.add_sub_cancel] at CL
      clear hn HF HN HOK
      have hkc : (k : Int) ≤ (c : Int) := by omega
      go_enter Try.func28, Try.ntmps28
      go_wp2_with fail
      refine (CF.out _).mono ?_
      rintro e w' ⟨rfl, rfl⟩
      go_wp2_with fail
      refine (CL.out _).mono ?_
      rintro e w' ⟨rfl, rfl⟩
      go_wp2
      go_ret
      exact ⟨rfl, HB.out _⟩
  · rw [if_neg hx]
    have d0 : ((x : Int) == -1) = false := by simpa using hx
    by_cases hn : x = (ss.length : Int)
    · rw [decide_eq_true hn, Bool.true_and]
      have d1 : ((x : Int) == (n : Int)) = true := by rw [beq_iff_eq, HN.out]; exact hn
      have CL : Hid (∀ o, Calls Try.prog 67 #[.slice a n c] (w.alloc o) fun e w' => e = .returned (.bool (M.full ss)) ∧ w.alloc o = w') := fun o =>
        iFull_any _ a n c ss (HF.out.below (HB.out o)) HOK.out
      generalize M.full ss = r at CL
      clear hn hx HF HN HOK
      go_enter Try.func28, Try.ntmps28
      go_wp2_with fail
      refine (CF.out _).mono ?_
      rintro e w' ⟨rfl, rfl⟩
      go_wp2_with fail
      refine (CL.out _).mono ?_
      rintro e w' ⟨rfl, rfl⟩
      go_wp2
      go_ret
      exact ⟨rfl, HB.out _⟩
    · rw [decide_eq_false hn, Bool.false_and]
      have d1 : ((x : Int) == (n : Int)) = false := by rw [beq_eq_false_iff_ne, HN.out]; exact hn
      clear hn hx HF HN HOK
      go_enter Try.func28, Try.ntmps28
      go_wp2_with fail
      refine (CF.out _).mono ?_
      rintro e w' ⟨rfl, rfl⟩
      go_wp2
      go_ret
      exact ⟨rfl, HB.out _⟩
end Go.Proofs.Ytgppdhfhcnkfpaa
