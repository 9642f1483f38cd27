/-
  What SenderRight of the program does.
-/
import Derived.Test.YtafenhodfoflbabIFits
import Derived.Test.YtafenhodfoflbabLinkBox
namespace Go.Proofs.Ytafenhodfoflbab
open Go.RowKit

theorem M.snd_no {ss : List ByteArray} {x d t : Int} (h : ¬ (1 ≤ ss.length ∧ M.fits ss = true ∧ (0 ≤ x ∧ x ≤ (ss.length : Int)) ∧ (0 ≤ d ∧ d ≤ 2000000000) ∧ 1 ≤ t ∧ t ≤ 64)) : M.sndR ss x d t = false := by
  cases hr : M.sndR ss x d t
  · rfl
  · exfalso
    apply h
    unfold M.sndR at hr
    simpa [and_assoc] using hr
theorem M.snd_yes {ss : List ByteArray} {x d t : Int} (h : 1 ≤ ss.length ∧ M.fits ss = true ∧ (0 ≤ x ∧ x ≤ (ss.length : Int)) ∧ (0 ≤ d ∧ d ≤ 2000000000) ∧ 1 ≤ t ∧ t ≤ 64) : M.sndR ss x d t = true := by
  unfold M.sndR
  simpa [and_assoc] using h

set_option maxRecDepth 100000 in
set_option maxHeartbeats 1600000 in
theorem iSendR_any (w : World) (a : Option Addr) (n c : Nat) (ss : List ByteArray) (x d t : Int) (h : M.Strs w a n c ss) (hok : ∀ s ∈ ss, s.size ≤ maxLen) :
    Calls Try.prog 12 #[.agg #[.slice a n c, .int .i64 x, .int .i64 d, .int .i64 t]] w fun e w' => e = .returned (.bool (M.sndR ss x d t)) ∧ Below w.heap.size w w' := by
  have hlm : n ≤ 9223372036854775807 := by obtain ⟨_, h1, h2, _⟩ := h; unfold maxLen at h2; omega
  have HB : Hid (∀ o, Below w.heap.size w (w.alloc o)) := fun o => (Below.refl _ _).alloc (Nat.le_refl _) _
  have CF : Hid (∀ o, Calls Try.prog 39 #[.slice a n c] (w.alloc o) fun e w' => e = .returned (.bool (M.fits ss)) ∧ w.alloc o = w') := fun o => iFits_any _ a n c ss (h.below (HB.out o)) hok
  have HN : Hid (n = ss.length) := h.1
  clear h hok
  by_cases h0 : n = 0
  · rw [M.snd_no (fun h => by have := HN.out; have := h.1; omega)]
    subst h0
    go_enter Try.func12, Try.ntmps12
    go_wp2
    go_ret
    exact ⟨rfl, HB.out _⟩
  have d0 : decide ((n : Int) < 1) = false := decide_eq_false (by omega)
  cases hf : M.fits ss
  · rw [M.snd_no (fun h => by have := h.2.1; rw [hf] at this; cases this)]
    rw [hf] at CF
    clear hf h0
    go_enter Try.func12, Try.ntmps12
    go_wp2_with fail
    refine (CF.out _).mono ?_
    rintro e w' ⟨rfl, rfl⟩
    go_wp2
    go_ret
    exact ⟨rfl, HB.out _⟩
  have HFI := M.hl hf
  rw [hf] at CF
  clear hf
  by_cases b0 : x < 0
  · rw [M.snd_no (fun h => by have := HN.out; have := h.2.2.1.1; omega)]
    have e0 : decide (x < 0) = true := decide_eq_true (by omega)
    clear b0 h0
    go_enter Try.func12, Try.ntmps12
    go_wp2_with fail
    refine (CF.out _).mono ?_
    rintro e w' ⟨rfl, rfl⟩
    go_wp2
    go_ret
    exact ⟨rfl, HB.out _⟩
  have e0 : decide (x < 0) = false := decide_eq_false (by omega)
  by_cases b1 : (n : Int) < x
  · rw [M.snd_no (fun h => by have := HN.out; have := h.2.2.1.2; omega)]
    have e1 : decide ((n : Int) < x) = true := decide_eq_true (by omega)
    clear b1 h0
    go_enter Try.func12, Try.ntmps12
    go_wp2_with fail
    refine (CF.out _).mono ?_
    rintro e w' ⟨rfl, rfl⟩
    go_wp2
    go_ret
    exact ⟨rfl, HB.out _⟩
  have e1 : decide ((n : Int) < x) = false := decide_eq_false (by omega)
  by_cases b2 : d < 0
  · rw [M.snd_no (fun h => by have := HN.out; have := h.2.2.2.1.1; omega)]
    have e2 : decide (0 ≤ d) = false := decide_eq_false (by omega)
    clear b2 h0
    go_enter Try.func12, Try.ntmps12
    go_wp2_with fail
    refine (CF.out _).mono ?_
    rintro e w' ⟨rfl, rfl⟩
    go_wp2
    go_ret
    exact ⟨rfl, HB.out _⟩
  have e2 : decide (0 ≤ d) = true := decide_eq_true (by omega)
  by_cases b3 : 2000000000 < d
  · rw [M.snd_no (fun h => by have := HN.out; have := h.2.2.2.1.2; omega)]
    have e3 : decide (d ≤ 2000000000) = false := decide_eq_false (by omega)
    clear b3 h0
    go_enter Try.func12, Try.ntmps12
    go_wp2_with fail
    refine (CF.out _).mono ?_
    rintro e w' ⟨rfl, rfl⟩
    go_wp2
    go_ret
    exact ⟨rfl, HB.out _⟩
  have e3 : decide (d ≤ 2000000000) = true := decide_eq_true (by omega)
  by_cases b4 : t < 1
  · rw [M.snd_no (fun h => by have := HN.out; have := h.2.2.2.2.1; omega)]
    have e4 : decide (1 ≤ t) = false := decide_eq_false (by omega)
    clear b4 h0
    go_enter Try.func12, Try.ntmps12
    go_wp2_with fail
    refine (CF.out _).mono ?_
    rintro e w' ⟨rfl, rfl⟩
    go_wp2
    go_ret
    exact ⟨rfl, HB.out _⟩
  have e4 : decide (1 ≤ t) = true := decide_eq_true (by omega)
  by_cases b5 : 64 < t
  · rw [M.snd_no (fun h => by have := HN.out; have := h.2.2.2.2.2; omega)]
    have e5 : decide (t ≤ 64) = false := decide_eq_false (by omega)
    clear b5 h0
    go_enter Try.func12, Try.ntmps12
    go_wp2_with fail
    refine (CF.out _).mono ?_
    rintro e w' ⟨rfl, rfl⟩
    go_wp2
    go_ret
    exact ⟨rfl, HB.out _⟩
  have e5 : decide (t ≤ 64) = true := decide_eq_true (by omega)
  rw [M.snd_yes ⟨by have := HN.out; omega, HFI.out, ⟨by omega, by have := HN.out; omega⟩, ⟨by omega, by omega⟩, by omega, by omega⟩]
  clear b0 b1 b2 b3 b4 b5 h0
  go_enter Try.func12, Try.ntmps12
  go_wp2_with fail
  refine (CF.out _).mono ?_
  rintro e w' ⟨rfl, rfl⟩
  go_wp2
  go_ret
  exact ⟨rfl, HB.out _⟩
end Go.Proofs.Ytafenhodfoflbab
