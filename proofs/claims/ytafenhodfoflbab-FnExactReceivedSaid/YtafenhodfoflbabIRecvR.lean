/-
  What ReceiverRight of the program does.
-/
import Derived.Test.YtafenhodfoflbabIFits
import Derived.Test.YtafenhodfoflbabIFull
import Derived.Test.YtafenhodfoflbabLinkBox
namespace Go.Proofs.Ytafenhodfoflbab
open Go.RowKit

set_option maxRecDepth 100000 in
set_option maxHeartbeats 800000 in
theorem iRecvR_any (w : World) (a : Option Addr) (n c : Nat) (ss : List ByteArray) (x : Int) (h : M.Strs w a n c ss) (hok : ∀ s ∈ ss, s.size ≤ maxLen) :
    Calls Try.prog 26 #[.agg #[.slice a n c, .int .i64 x]] w fun e w' => e = .returned (.bool (M.rcvR ss x)) ∧ Below w.heap.size w w' := by
  have hlm : n ≤ 9223372036854775807 := by obtain ⟨_, h1, h2, _⟩ := h; unfold maxLen at h2; omega
  have hnc : n ≤ c := h.2.1
  have HB : Hid (∀ o, Below w.heap.size w (w.alloc o)) := fun o => (Below.refl _ _).alloc (Nat.le_refl _) _
  have CF : Hid (∀ o, Calls Try.prog 39 #[.slice a n c] (w.alloc o) fun e w' => e = .returned (.bool (M.fits ss)) ∧ w.alloc o = w') := fun o => iFits_any _ a n c ss (h.below (HB.out o)) hok
  have HN : Hid (n = ss.length) := h.1
  have HF := M.hl h
  have HOK := M.hl hok
  clear h hok
  unfold M.rcvR
  cases hf : M.fits ss
  · rw [hf] at CF
    rw [Bool.false_and]
    clear hf
    go_enter Try.func26, Try.ntmps26
    go_wp2_with fail
    refine (CF.out _).mono ?_
    rintro e w' ⟨rfl, rfl⟩
    go_wp2
    go_ret
    exact ⟨rfl, HB.out _⟩
  rw [hf] at CF
  rw [Bool.true_and]
  clear hf
  by_cases hx : x = -1
  · rw [if_pos hx]
    subst hx
    by_cases hn : n = 0
    · rw [decide_eq_false (by have := HN.out; omega), Bool.false_and]
      subst hn
      go_enter Try.func26, Try.ntmps26
      go_wp2_with fail
      refine (CF.out _).mono ?_
      rintro e w' ⟨rfl, rfl⟩
      go_wp2
      go_ret
      exact ⟨rfl, HB.out _⟩
    · rw [decide_eq_true (by have := HN.out; omega), Bool.true_and]
      have CL : Hid (∀ o, Calls Try.prog 55 #[.slice a (n - 1) c] (w.alloc o) fun e w' => e = .returned (.bool (M.full ss.dropLast)) ∧ w.alloc o = w') := fun o => by
        rw [List.dropLast_eq_take, ← HN.out]
        exact iFull_any _ a (n - 1) c (ss.take (n - 1)) ((HF.out.below (HB.out o)).pre (n - 1) (by omega)) (fun s hs => HOK.out s (List.mem_of_mem_take hs))
      generalize M.full ss.dropLast = r at CL
      obtain ⟨k, rfl⟩ : ∃ k, n = k + 1 := ⟨n - 1, by omega⟩
      rw [Nat.add_sub_cancel] at CL
      clear hn HF HN HOK
      have hkc : (k : Int) ≤ (c : Int) := by omega
      go_enter Try.func26, Try.ntmps26
      go_wp2_with fail
      refine (CF.out _).mono ?_
      rintro e w' ⟨rfl, rfl⟩
      go_wp2_with fail
      refine (CL.out _).mono ?_
      rintro e w' ⟨rfl, rfl⟩
      go_wp2
      go_ret
      exact ⟨rfl, HB.out _⟩
  · rw [if_neg hx]
    have d0 : ((x : Int) == -1) = false := by simpa using hx
    by_cases hn : x = (ss.length : Int)
    · rw [decide_eq_true hn, Bool.true_and]
      have d1 : ((x : Int) == (n : Int)) = true := by rw [beq_iff_eq, HN.out]; exact hn
      have CL : Hid (∀ o, Calls Try.prog 55 #[.slice a n c] (w.alloc o) fun e w' => e = .returned (.bool (M.full ss)) ∧ w.alloc o = w') := fun o =>
        iFull_any _ a n c ss (HF.out.below (HB.out o)) HOK.out
      generalize M.full ss = r at CL
      clear hn hx HF HN HOK
      go_enter Try.func26, Try.ntmps26
      go_wp2_with fail
      refine (CF.out _).mono ?_
      rintro e w' ⟨rfl, rfl⟩
      go_wp2_with fail
      refine (CL.out _).mono ?_
      rintro e w' ⟨rfl, rfl⟩
      go_wp2
      go_ret
      exact ⟨rfl, HB.out _⟩
    · rw [decide_eq_false hn, Bool.false_and]
      have d1 : ((x : Int) == (n : Int)) = false := by rw [beq_eq_false_iff_ne, HN.out]; exact hn
      clear hn hx HF HN HOK
      go_enter Try.func26, Try.ntmps26
      go_wp2_with fail
      refine (CF.out _).mono ?_
      rintro e w' ⟨rfl, rfl⟩
      go_wp2
      go_ret
      exact ⟨rfl, HB.out _⟩
end Go.Proofs.Ytafenhodfoflbab
