/-
  Draws of numbers at some limit.
-/
import Derived.Test.YtgppdhfhcnkfpaaSrcWalks
namespace Go.Proofs.Ytgppdhfhcnkfpaa
open Go.RowKit

theorem M.Src.alloc {W : World} {g : Nat} {a : Option Addr} {len cap : Nat} (h : M.Src g a len cap W) (o : Obj) : M.Src g a len cap (W.alloc o) :=
  h.kept (World.grownBy_alloc W o none) (fun k hk => by simp at hk)

theorem M.edges (w : World) (T : TypeId) (k : Nat) (hk : k < 14) : ∃ z : Int, -9223372036854775808 ≤ z ∧ z ≤ 9223372036854775807 ∧
    (w.alloc (.cells #[.int .i64 0, .int .i64 1, .int .i64 (-1), .int .i64 2, .int .i64 1000, .int .i64 1001, .int .i64 2147483648, .int .i64 2147483647, .int .i64 (-2147483648), .int .i64 4611686018427387904, .int .i64 9223372036854775807, .int .i64 (-9223372036854775808), .int .i64 1000000, .int .i64 1000001] T)).cell? ⟨w.heap.size, k, none⟩ = some (.int .i64 z) := by
  rw [World.cell?_alloc_mark]
  rcases (show k = 0 ∨ k = 1 ∨ k = 2 ∨ k = 3 ∨ k = 4 ∨ k = 5 ∨ k = 6 ∨ k = 7 ∨ k = 8 ∨ k = 9 ∨ k = 10 ∨ k = 11 ∨ k = 12 ∨ k = 13 by omega) with rfl | rfl | rfl | rfl | rfl | rfl | rfl | rfl | rfl | rfl | rfl | rfl | rfl | rfl
  all_goals exact ⟨_, by omega, by omega, rfl⟩

set_option maxRecDepth 100000 in
set_option maxHeartbeats 800000 in
theorem src_edge (w : World) (g len cap : Nat) (a : Option Addr) (h : M.Src g a len cap w) :
    Calls Try.prog 56 #[.pointer (some ⟨g, 0, none⟩)] w fun e w' => ∃ v : Int, e = .returned (.int .i64 v) ∧ -9223372036854775808 ≤ v ∧ v ≤ 9223372036854775807 ∧ M.Src g a len cap w' ∧ w.grownBy w' (some g) := by
  have HS : Hid (M.Src g a len cap w) := h
  clear h
  go_enter Try.func56, Try.ntmps56
  go_wp2_with fail
  refine (src_n _ g len cap a 14 (HS.out.alloc _) (by omega)).mono ?_
  rintro e w1 ⟨v, rfl, h0, h1, h2, hS, hg⟩
  have h14 := h1 (by omega)
  obtain ⟨k, rfl⟩ := Int.eq_ofNat_of_zero_le h0
  obtain ⟨z, hz0, hz9, cz⟩ := M.edges w 2 k (by omega)
  have cz1 := hg.cell cz (by have := HS.out.lt; simp; omega)
  have HS1 : Hid (M.Src g a len cap w1) := hS
  have HG : Hid _ := hg
  clear hS hg cz h1 h2
  go_wp2
  go_ret
  exact ⟨z, rfl, hz0, hz9, HS1.out, M.grown_trans (World.grownBy_alloc w _ (some g)) HG.out⟩
end Go.Proofs.Ytgppdhfhcnkfpaa
