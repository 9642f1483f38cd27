/-
  A row of files that a call owns and makes longer.
-/
import Derived.Test.YthiojdemcaaihaaGreatDoorOwnMath
import Derived.Test.YthiojdemcaaihaaGreatDoorRows
import Derived.WalkKit
import Derived.WalkSpells
import Derived.WalkLawsBesides
namespace Go.Proofs.YthiojdemcaaihaaGreatDoor
open Go.RowKit

theorem Tryz.infoFn : (Tryz.prog.info? 36).map (fun i => (i.zero, i.size, i.bytes)) = some (some (.agg #[.string ⟨#[]⟩, .bool false, .int .i64 0, .int .i64 0, .string ⟨#[]⟩]), 5, 56) := by kernel_rfl
theorem M.five_n (w : World) (c : M.FileD) (T : TypeId) : ∀ j u, (M.fcells c)[j]? = some u → (w.alloc (.cells #[.string c.path, .bool c.dir, .int .i64 c.mode, .int .i64 c.time, .string c.data] T)).cell? ((⟨w.heap.size, 0, none⟩ : Addr).add j) = some u := by
  intro j u hu
  rw [Addr.add_lit, Nat.zero_add, World.cell?_alloc_mark]
  simpa [M.fcells] using hu
theorem M.oneCellN (x : M.FileD) : ∀ v ∈ M.fcells x, v.oneCell' = true := by
  intro v hv
  simp [M.fcells] at hv
  rcases hv with rfl | rfl | rfl | rfl | rfl <;> rfl
theorem M.Own.more {w : World} {base : Nat} {v : Value} {fs : List M.FileD} {f : M.FileD} (h : w.ownsRow base 36 5 v (fs.length + 1) (M.cellsF fs ++ M.fcells f)) : M.Own w base 36 v (fs ++ [f]) := by
  unfold M.Own
  rw [← M.cellsF_snoc, List.length_append]
  exact h
theorem M.Own.below {w W : World} {base : Nat} {v : Value} {fs : List M.FileD} (h : M.Own w base 36 v fs) (hb : Below w.heap.size w W) : M.Own W base 36 v fs := by
  obtain ⟨hl, h0 | ⟨g, cap, cur, hv, hg, hh, hn, hc, hz, ht⟩⟩ := h
  · exact ⟨hl, .inl h0⟩
  · exact ⟨hl, .inr ⟨g, cap, cur, hv, hg, by rw [hb.block g (Array.getElem?_eq_some_iff.1 hh).1]; exact hh, hn, hc, hz, ht⟩⟩
end Go.Proofs.YthiojdemcaaihaaGreatDoor
