/-
  Boxes of arguments and of answers: small facts on blocks.
-/
import Derived.Test.YtpokcbcffijheabLinkMath
import Derived.WalkKit
import Derived.Below
namespace Go.Proofs.Ytpokcbcffijheab
open Go.RowKit

theorem M.thr3 (w : World) (o1 o2 o3 : Obj) : (((w.alloc o1).alloc o2).alloc o3).heap[w.heap.size]? = some o1 ∧ (((w.alloc o1).alloc o2).alloc o3).heap[w.heap.size + 1]? = some o2 ∧ (((w.alloc o1).alloc o2).alloc o3).heap[w.heap.size + 1 + 1]? = some o3 := by
  have e1 : (w.alloc o1).heap.size = w.heap.size + 1 := by simp
  have e2 : ((w.alloc o1).alloc o2).heap.size = w.heap.size + 1 + 1 := by simp
  refine ⟨?_, ?_, ?_⟩
  · rw [heap_alloc_old _ _ (by rw [e2]; omega)]; exact heap_alloc2_old w o1 o2
  · rw [heap_alloc_old _ _ (by rw [e2]; omega)]; exact heap_alloc2_new w o1 o2
  · have := heap_alloc_new ((w.alloc o1).alloc o2) o3
    rwa [e2] at this
theorem M.thr2 (w : World) (o1 o2 : Obj) : ((w.alloc o1).alloc o2).heap[w.heap.size]? = some o1 ∧ ((w.alloc o1).alloc o2).heap[w.heap.size + 1]? = some o2 := ⟨heap_alloc2_old w o1 o2, heap_alloc2_new w o1 o2⟩
theorem M.setfr {w : World} {g b j : Nat} {v : Value} (h : g ≠ b) : (w.setCell ⟨g, j, none⟩ v).heap[b]? = w.heap[b]? := by
  simp only [World.setCell, Array.getElem?_modify]
  rw [if_neg h]
theorem M.bk_cell {W : World} {H : Nat} {arr : Array Value} {T : TypeId} (h : W.heap[H]? = some (.cells arr T (0, 0))) (i : Nat) (v : Value) (hv : arr[i]? = some v) : W.cell? ⟨H, i, none⟩ = some v := by
  simp [World.cell?, h, hv]
theorem M.bk_free {W : World} {H : Nat} {arr : Array Value} {T : TypeId} (h : W.heap[H]? = some (.cells arr T (0, 0))) (i : Nat) : W.frozen? ⟨H, i, none⟩ = false := by
  simp [World.frozen?, h]
/-- A box that was laid first: what lies in it, behind whatever changes nothing of it. -/
theorem M.bxd {w W : World} {arr : Array Value} {T : TypeId} (hb : Below (w.alloc (.cells arr T)).heap.size (w.alloc (.cells arr T)) W) (i : Nat) (v : Value) (hv : arr[i]? = some v) : W.cell? ⟨w.heap.size, i, none⟩ = some v := by
  have := (hb.block w.heap.size (by simp)).trans (heap_alloc_new w (.cells arr T))
  exact M.bk_cell this i v hv
theorem M.bxd_below {w W : World} {o : Obj} (hb : Below (w.alloc o).heap.size (w.alloc o) W) : Below w.heap.size w W :=
  ((Below.refl w.heap.size w).alloc (Nat.le_refl _) o).trans (hb.mono (by simp))
theorem M.keepO {W W' : World} {H : Nat} {o : Obj} (h : W.heap[H]? = some o) (hb : Below W.heap.size W W') : W'.heap[H]? = some o := (hb.block H (Array.getElem?_eq_some_iff.1 h).1).trans h
end Go.Proofs.Ytpokcbcffijheab
