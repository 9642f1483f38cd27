/-
  What SendNew of the specification does.
-/
import Derived.Test.YtafenhodfoflbaaSPieces
import Derived.Test.YtafenhodfoflbaaSendCopy
import Derived.Test.YtafenhodfoflbaaNewMath
namespace Go.Proofs.Ytafenhodfoflbaa
open Go.RowKit

set_option maxRecDepth 100000 in
set_option maxHeartbeats 1600000 in
theorem sSendNew_any (s : ByteArray) (w : World) (hs : s.size ≤ maxLen) :
    Calls Try.prog 39 #[.string s] w fun e w' => ∃ v, e = .returned (.agg #[v, .int .i64 0, .int .i64 0, .int .i64 (M.newW s)]) ∧ M.OwnS w' w.heap.size v (M.piecesOf s) ∧ Below w.heap.size w w' := by
  have HB : Hid (∀ o, Below w.heap.size w (w.alloc o)) := fun o => (Below.refl _ _).alloc (Nat.le_refl _) _
  have CP : Hid (∀ o, Calls Try.prog 11 #[.string s] (w.alloc o) fun e w' => ∃ v, e = .returned v ∧ M.OwnS w' (w.heap.size + 1) v (M.piecesOf s) ∧ Below (w.alloc o).heap.size (w.alloc o) w') := fun o => by
    have := sPieces_any s (w.alloc o) hs
    simpa using this
  have h3 := M.piecesOf_len s
  unfold M.newW
  generalize hps : M.piecesOf s = ps at CP h3
  obtain ⟨t, ht⟩ : ∃ t : Int, t = if ps.length = 0 then 0 else 1 := ⟨_, rfl⟩
  rw [← ht]
  have HT := M.hl ht
  clear hs hps ht
  go_enter Try.func39, Try.ntmps39
  go_wp2_with fail
  refine (CP.out _).mono ?_
  rintro e w1 ⟨v, rfl, hO, hb⟩
  have O1 := M.hl hO
  have B1 := M.hl (M.bxd_below hb)
  have u1 := (hb.block w.heap.size (by simp)).trans (heap_alloc_new _ _)
  have r0 := M.bk_cell u1 0 _ rfl
  have r1 := M.bk_cell u1 1 _ rfl
  have r2 := M.bk_cell u1 2 _ rfl
  have r3 := M.bk_cell u1 3 _ rfl
  have fr := M.bk_free u1
  obtain ⟨a', cap', rfl⟩ := hO.len
  clear hO hb u1
  by_cases h0 : ps.length = 0
  · have hnil := List.eq_nil_of_length_eq_zero h0
    subst hnil
    have d0 : ((([] : List ByteArray).length : Int) == 0) = true := rfl
    go_wp2
    refine bodyPost_ret (v := .agg #[.slice none 0 0, .int .i64 0, .int .i64 0, .int .i64 0]) (by simp [results, Try.results39, go_sem, r0, r1, r2, r3]) rfl ⟨_, by rw [HT.out]; rfl, M.OwnS.nil _ _, ?_⟩
    first | exact B1.out | exact (((B1.out.setCell (by simp) _).setCell (by simp) _).setCell (by simp) _).setCell (by simp) _
  · have HT1 : Hid (t = 1) := by have := HT.out; rw [if_neg h0] at this; exact this
    have d0 : ((ps.length : Int) == 0) = false := by rw [beq_eq_false_iff_ne]; omega
    go_wp2
    refine bodyPost_ret (v := .agg #[.slice a' ps.length cap', .int .i64 0, .int .i64 0, .int .i64 1]) (by simp [results, Try.results39, go_sem, r0, r1, r2, r3]) rfl ⟨_, by rw [HT1.out], ?_, ?_⟩
    · exact ((((O1.out.setLow (by omega) _ _).setLow (by omega) _ _).setLow (by omega) _ _).setLow (by omega) _ _).lower (by omega)
    · exact (((B1.out.setCell (by simp) _).setCell (by simp) _).setCell (by simp) _).setCell (by simp) _
end Go.Proofs.Ytafenhodfoflbaa
