/-
  What PacketOf of the program does.
-/
import Derived.Test.YtgppdhfhcnkfpaaPart3
import Derived.Test.YtgppdhfhcnkfpaaIMade
import Derived.Test.YtgppdhfhcnkfpaaPart4
namespace Go.Proofs.Ytgppdhfhcnkfpaa
open Go.RowKit

set_option maxRecDepth 100000 in
set_option maxHeartbeats 1600000 in
theorem iPktOf_any (w : World) (a : Option Addr) (n c : Nat) (ss : List ByteArray) (k : Int) (h : M.Strs w a n c ss) (hok : ∀ s ∈ ss, s.size ≤ maxLen) :
    Calls Try.prog 12 #[.slice a n c, .int .i64 k] w fun e w' => e = .returned (M.pval (M.pof ss k)) ∧ Below w.heap.size w w' := by
  have hlm : n ≤ 9223372036854775807 := by obtain ⟨_, h1, h2, _⟩ := h; unfold maxLen at h2; omega
  have HB : Hid (∀ o, Below w.heap.size w (w.alloc o)) := fun o => (Below.refl _ _).alloc (Nat.le_refl _) _
  have CF : Hid (∀ o, Calls Try.prog 49 #[.slice a n c] (w.alloc o) fun e w' => e = .returned (.bool (M.fits ss)) ∧ w.alloc o = w') := fun o => iFits_any _ a n c ss (h.below (HB.out o)) hok
  have HN : Hid (n = ss.length) := h.1
  have HF := M.hl h
  clear h hok
  cases hf : M.fits ss
  · rw [M.pof_unfit hf]
    rw [hf] at CF
    clear hf
    go_enter Try.func12, Try.ntmps12
    go_wp2_with fail
    refine (CF.out _).mono ?_
    rintro e w' ⟨rfl, rfl⟩
    go_wp2
    refine bodyPost_ret (v := M.pval M.pzero) (by simp [results, Try.results12, go_sem, M.pval, M.pzero]) rfl ⟨rfl, ?_⟩
    first | exact HB.out _ | exact ((((HB.out _).setCell (by simp) _).setCell (by simp) _).setCell (by simp) _).setCell (by simp) _
  have HFI := M.hl hf
  rw [hf] at CF
  clear hf
  by_cases b0 : k < 0
  · rw [M.pof_neg b0]
    have e0 : decide (k < 0) = true := decide_eq_true b0
    go_enter Try.func12, Try.ntmps12
    go_wp2_with fail
    refine (CF.out _).mono ?_
    rintro e w' ⟨rfl, rfl⟩
    go_wp2
    refine bodyPost_ret (v := M.pval M.pzero) (by simp [results, Try.results12, go_sem, M.pval, M.pzero]) rfl ⟨rfl, ?_⟩
    first | exact HB.out _ | exact ((((HB.out _).setCell (by simp) _).setCell (by simp) _).setCell (by simp) _).setCell (by simp) _
  obtain ⟨j, rfl⟩ := Int.eq_ofNat_of_zero_le (show 0 ≤ k by omega)
  have e0 : decide ((j : Int) < 0) = false := decide_eq_false (by omega)
  clear b0
  by_cases b1 : n ≤ j
  · rw [M.pof_far (by have := HN.out; omega)]
    have e1 : decide ((n : Int) ≤ (j : Int)) = true := decide_eq_true (by omega)
    go_enter Try.func12, Try.ntmps12
    go_wp2_with fail
    refine (CF.out _).mono ?_
    rintro e w' ⟨rfl, rfl⟩
    go_wp2
    refine bodyPost_ret (v := M.pval M.pzero) (by simp [results, Try.results12, go_sem, M.pval, M.pzero]) rfl ⟨rfl, ?_⟩
    first | exact HB.out _ | exact ((((HB.out _).setCell (by simp) _).setCell (by simp) _).setCell (by simp) _).setCell (by simp) _
  have e1 : decide ((n : Int) ≤ (j : Int)) = false := decide_eq_false (by omega)
  have hjn : j < n := by omega
  obtain ⟨-, -, -, hfa⟩ := HF.out
  obtain ⟨b, off, rfl, hat⟩ := hfa (by omega)
  have hjl : j < ss.length := by have := HN.out; omega
  have c0 := hat j hjl
  have hfk := List.getElem?_eq_getElem (l := ss) (i := j) hjl
  generalize ss[j]'hjl = s at c0 hfk
  have hbs : b < w.heap.size := World.block_lt_of_cell? w _ c0
  have d0 : ∀ o, (w.alloc o).cell? ⟨b, off + j, none⟩ = some (.string s) := fun o => ((HB.out o).cell (p := ⟨b, off + j, none⟩) hbs).trans c0
  have hs64 : s.size ≤ 64 := (M.fits_iff.1 HFI.out).2 s (List.mem_of_getElem? hfk)
  rw [M.pof_at HFI.out hfk]
  unfold M.pmk
  rw [← HN.out]
  generalize hl : ((j : Int) == (n : Int) - 1) = l
  have CM : Hid (∀ W, Calls Try.prog 50 #[.int .i64 (j : Int), .bool l, .string s] W fun e w' => e = .returned (.agg #[.int .i64 (j : Int), .bool l, .string s, .int .i64 (M.pcrc (j : Int) l s)]) ∧ Below W.heap.size W w') := fun W => iMade_any (j : Int) l s W (by omega) (by omega) (by omega)
  generalize M.pcrc (j : Int) l s = r at CM
  clear hfk hat hfa HF b1 hjl c0
  go_enter Try.func12, Try.ntmps12
  go_wp2_with fail
  refine (CF.out _).mono ?_
  rintro e w' ⟨rfl, rfl⟩
  go_wp2_with fail
  refine (CM.out _).mono ?_
  rintro e w1 ⟨rfl, hb⟩
  have u1 := (hb.block w.heap.size (by simp)).trans (heap_alloc_new _ _)
  have r0 := M.bk_cell u1 0 _ rfl
  have r1 := M.bk_cell u1 1 _ rfl
  have r2 := M.bk_cell u1 2 _ rfl
  have r3 := M.bk_cell u1 3 _ rfl
  have fr := M.bk_free u1
  have B1 := M.hl (M.bxd_below hb)
  clear hb u1
  go_wp2
  refine bodyPost_ret (v := .agg #[.int .i64 (j : Int), .bool l, .string s, .int .i64 r]) (by simp [results, Try.results12, go_sem, r0, r1, r2, r3]) rfl ⟨rfl, ?_⟩
  exact (((B1.out.setCell (by simp) _).setCell (by simp) _).setCell (by simp) _).setCell (by simp) _
end Go.Proofs.Ytgppdhfhcnkfpaa
