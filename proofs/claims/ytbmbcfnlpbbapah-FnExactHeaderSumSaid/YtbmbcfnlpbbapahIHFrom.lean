/-
  What the program's headerFrom does.
-/
import Derived.Test.YtbmbcfnlpbbapahHeadZero
import Derived.Lib.SlBuf
namespace Go.Proofs.Ytbmbcfnlpbbapah
open Go.RowKit

theorem M.hfrom_copy (s : ByteArray) (w : World) (hs : s.size = 512) : ∃ W, (Builtin.copy_ #[28, 9] 3 #[.slice (some ⟨w.heap.size + 1, 0, none⟩) 512 512, .string s]).run Try.prog ((w.alloc (.cells M.zer 25)).alloc (.cells M.zer 25)) = .ok (goInt s.size) W
    ∧ M.Arr W (w.heap.size + 1) 25 s.data.toList ∧ M.Arr W w.heap.size 25 (List.replicate 512 0) ∧ Below w.heap.size w W := by
  have h1 : M.Arr ((w.alloc (.cells M.zer 25)).alloc (.cells M.zer 25)) (w.heap.size + 1) 25 (List.replicate 512 0) := by
    have := M.arr_made (w.alloc (.cells M.zer 25)) 25 (List.replicate 512 0)
    rwa [World.size_alloc] at this
  have h0 : M.Arr ((w.alloc (.cells M.zer 25)).alloc (.cells M.zer 25)) w.heap.size 25 (List.replicate 512 0) :=
    heap_alloc2_old w _ _
  have hsz : s.data.toList.length = 512 := by rw [← Lib.size_eq]; exact hs
  have hr := run_copy_string (P := Try.prog) _ 28 9 3 5 (w.heap.size + 1) 0 512 512 s Try.underlying28 M.sizeU (by omega)
    (fun j hj => by rw [Nat.zero_add, h1.row.cell j (by rw [List.length_replicate]; omega)]; rfl) (fun j hj => by rw [Nat.zero_add]; exact h1.row.free j (by rw [List.length_replicate]; omega))
  refine ⟨_, hr, ?_, ?_, ?_⟩
  · have := M.Arr.setCells s.data.toList 0 _ _ h1 (by rw [List.length_replicate]; omega)
    have e : M.over (List.replicate 512 0) 0 s.data.toList = s.data.toList := M.over_all (by rw [List.length_replicate]; omega)
    rw [e] at this
    exact this
  · exact M.Arr.below (B := w.heap.size + 1) h0 (Lib.below_setCells _ (Nat.le_refl _) _ _ (Below.refl _ _)) (Nat.lt_succ_self _)
  · refine Lib.below_setCells _ (Nat.le_succ _) _ _ ?_
    exact ((Below.refl _ _).alloc (Nat.le_refl _) _).alloc (by simp) _

set_option maxRecDepth 100000 in
set_option maxHeartbeats 1600000 in
theorem iHFrom_any (s : ByteArray) (w : World) (hs : s.size = 512) :
    Calls Try.prog 10 #[.string s] w fun e w' => e = .returned (.agg (s.data.toList.map M.u8).toArray) ∧ Below w.heap.size w w' := by
  have hz := (zero_of_info Try.infoH).1
  have HI : Hid ((Try.prog.info? 25).map (·.size) = some 512) := (zero_of_info Try.infoH).2
  obtain ⟨W, hcp, H1, H0, HB⟩ := M.hfrom_copy s w hs
  obtain ⟨W3, hst, H3, hB3⟩ := M.Arr.store (P := Try.prog) H0 s.data.toList (by rw [List.length_replicate, ← Lib.size_eq]; omega)
  have HH : Hid (M.Arr W (w.heap.size + 1) 25 s.data.toList) := H1
  have HH3 : Hid (M.Arr W3 w.heap.size 25 s.data.toList ∧ Below w.heap.size w W3) := ⟨H3, hB3 _ _ (Nat.le_refl _) HB⟩
  clear H1 H0 HB H3 hB3
  go_enter Try.func10, Try.ntmps10
  go_wp2_with (refine wpList_load_row rfl 25 _ rfl (w.heap.size + 1) rfl _ _ _ _ HH.out Try.underlying25 rfl (by rw [HI.out]; simp [hs]) ?_)
  exact bodyPost_ret (results_cell_row Try.results10 _ _ w.heap.size _ _ _ _ rfl HH3.out.1 Try.underlying25 rfl (by rw [HI.out]; simp [hs])) rfl ⟨rfl, HH3.out.2⟩
end Go.Proofs.Ytbmbcfnlpbbapah
