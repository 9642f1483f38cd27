/-
  What PacketOf of the specification does.
-/
import Derived.Test.YtgppdhfhcnkfpaaPart3
import Derived.Test.YtgppdhfhcnkfpaaSL06P
import Derived.Test.YtgppdhfhcnkfpaaSFits
namespace Go.Proofs.Ytgppdhfhcnkfpaa
open Go.RowKit

set_option maxRecDepth 100000 in
set_option maxHeartbeats 1600000 in
theorem sPktOf_any (w : World) (a : Option Addr) (n c : Nat) (ss : List ByteArray) (k : Int) (h : M.Strs w a n c ss) (hok : ∀ s ∈ ss, s.size ≤ maxLen) :
    Calls Try.prog 14 #[.slice a n c, .int .i64 k] w fun e w' => e = .returned (M.pval (M.pof ss k)) ∧ Below w.heap.size w w' := by
  have hlm : n ≤ 9223372036854775807 := by obtain ⟨_, h1, h2, _⟩ := h; unfold maxLen at h2; omega
  have HB : Hid (∀ o, Below w.heap.size w (w.alloc o)) := fun o => (Below.refl _ _).alloc (Nat.le_refl _) _
  have CF : Hid (∀ o, Calls Try.prog 51 #[.slice a n c] (w.alloc o) fun e w' => e = .returned (.bool (M.fits ss)) ∧ w.alloc o = w') := fun o => sFits_any _ a n c ss (h.below (HB.out o)) hok
  have HN : Hid (n = ss.length) := h.1
  have HF := M.hl h
  clear h hok
  by_cases b4 : 400 < n
  · rw [M.pof_unfit (M.fits_long (by have := HN.out; omega))]
    have e4 : decide (400 < (n : Int)) = true := decide_eq_true (by omega)
    go_enter Try.func14, Try.ntmps14
    go_wp2
    refine bodyPost_ret (v := M.pval M.pzero) (by simp [results, Try.results14, go_sem, M.pval, M.pzero]) rfl ⟨rfl, ?_⟩
    first | exact HB.out _ | exact ((((HB.out _).setCell (by simp) _).setCell (by simp) _).setCell (by simp) _).setCell (by simp) _
  have e4 : decide (400 < (n : Int)) = false := decide_eq_false (by omega)
  cases hf : M.fits ss
  · rw [M.pof_unfit hf]
    rw [hf] at CF
    clear hf
    go_enter Try.func14, Try.ntmps14
    go_wp2_with fail
    refine (CF.out _).mono ?_
    rintro e w' ⟨rfl, rfl⟩
    go_wp2
    refine bodyPost_ret (v := M.pval M.pzero) (by simp [results, Try.results14, go_sem, M.pval, M.pzero]) rfl ⟨rfl, ?_⟩
    first | exact HB.out _ | exact ((((HB.out _).setCell (by simp) _).setCell (by simp) _).setCell (by simp) _).setCell (by simp) _
  have HFI := M.hl hf
  rw [hf] at CF
  clear hf
  by_cases b0 : k < 0
  · rw [M.pof_neg b0]
    have e0 : decide (k < 0) = true := decide_eq_true b0
    go_enter Try.func14, Try.ntmps14
    go_wp2_with fail
    refine (CF.out _).mono ?_
    rintro e w' ⟨rfl, rfl⟩
    go_wp2
    refine bodyPost_ret (v := M.pval M.pzero) (by simp [results, Try.results14, go_sem, M.pval, M.pzero]) rfl ⟨rfl, ?_⟩
    first | exact HB.out _ | exact ((((HB.out _).setCell (by simp) _).setCell (by simp) _).setCell (by simp) _).setCell (by simp) _
  obtain ⟨j, rfl⟩ := Int.eq_ofNat_of_zero_le (show 0 ≤ k by omega)
  have e0 : decide ((j : Int) < 0) = false := decide_eq_false (by omega)
  clear b0
  by_cases b1 : n ≤ j
  · rw [M.pof_far (by have := HN.out; omega)]
    have e1 : decide ((n : Int) ≤ (j : Int)) = true := decide_eq_true (by omega)
    go_enter Try.func14, Try.ntmps14
    go_wp2_with fail
    refine (CF.out _).mono ?_
    rintro e w' ⟨rfl, rfl⟩
    go_wp2
    refine bodyPost_ret (v := M.pval M.pzero) (by simp [results, Try.results14, go_sem, M.pval, M.pzero]) rfl ⟨rfl, ?_⟩
    first | exact HB.out _ | exact ((((HB.out _).setCell (by simp) _).setCell (by simp) _).setCell (by simp) _).setCell (by simp) _
  have e1 : decide ((n : Int) ≤ (j : Int)) = false := decide_eq_false (by omega)
  have hjn : j < n := by omega
  have hjl : j < ss.length := by have := HN.out; omega
  have hfk := List.getElem?_eq_getElem (l := ss) (i := j) hjl
  generalize ss[j]'hjl = s at hfk
  have hs64 : s.size ≤ 64 := (M.fits_iff.1 HFI.out).2 s (List.mem_of_getElem? hfk)
  rw [M.pof_at HFI.out hfk]
  have CP : Hid (∀ o, Calls Try.prog 52 #[.slice a n c, .int .i64 (j : Int)] (w.alloc o) fun e w' => e = .returned (M.pval (M.pmk ss j s)) ∧ Below (w.alloc o).heap.size (w.alloc o) w') := fun o => sL06P_any _ a n c ss j s (HF.out.below (HB.out o)) hfk (by omega) (by omega)
  unfold M.pval at CP
  generalize M.pmk ss j s = p at CP
  clear hfk HF b1 hjl
  go_enter Try.func14, Try.ntmps14
  go_wp2_with fail
  refine (CF.out _).mono ?_
  rintro e w' ⟨rfl, rfl⟩
  go_wp2_with fail
  refine (CP.out _).mono ?_
  rintro e w1 ⟨rfl, hb⟩
  have u1 := (hb.block w.heap.size (by simp)).trans (heap_alloc_new _ _)
  have r0 := M.bk_cell u1 0 _ rfl
  have r1 := M.bk_cell u1 1 _ rfl
  have r2 := M.bk_cell u1 2 _ rfl
  have r3 := M.bk_cell u1 3 _ rfl
  have fr := M.bk_free u1
  have B1 := M.hl (M.bxd_below hb)
  clear hb u1
  go_wp2
  refine bodyPost_ret (v := .agg #[.int .i64 p.q, .bool p.l, .string p.s, .int .i64 p.c]) (by simp [results, Try.results14, go_sem, r0, r1, r2, r3]) rfl ⟨rfl, ?_⟩
  exact (((B1.out.setCell (by simp) _).setCell (by simp) _).setCell (by simp) _).setCell (by simp) _
end Go.Proofs.Ytgppdhfhcnkfpaa
