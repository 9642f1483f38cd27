/-
  What num of the specification's dump reader does.
-/
import Derived.Test.YtpokcbcffijheaaPart8
import Derived.Test.YtpokcbcffijheaaGetNumBase
import Derived.Test.YtpokcbcffijheaaStepCall2
import Derived.Test.YtpokcbcffijheaaPart4
import Derived.Deep.RegionWith
namespace Go.Proofs.Ytpokcbcffijheaa
open Go.RowKit

/-- The reader's box: the text, the place, and whether a fault was found. -/
def M.SdB (W : World) (H : Nat) (t : ByteArray) (st : Option Nat) : Prop :=
  match st with
  | some a => W.heap[H]? = some (.cells #[.string t, .int .i64 (a : Int), .bool false] 102 (0, 0))
  | none => ∃ a : Nat, a ≤ t.size ∧ W.heap[H]? = some (.cells #[.string t, .int .i64 (a : Int), .bool true] 102 (0, 0))

theorem M.grS {w W : World} {H g j : Nat} {v : Value} (h : w.grownBy W (some H)) (hg : g = H ∨ w.heap.size ≤ g) : w.grownBy (W.setCell ⟨g, j, none⟩ v) (some H) :=
  ⟨h.os, h.tape, h.output, by have := h.size; simp [World.setCell]; omega, fun k hk hne => by
    rw [M.setfr (fun e => by subst e; rcases hg with rfl | h1; exact hne rfl; omega)]; exact h.block k hk hne⟩
theorem M.grA {w W : World} {H : Nat} (h : w.grownBy W (some H)) (o : Obj) : w.grownBy (W.alloc o) (some H) :=
  ⟨h.os, h.tape, h.output, by have := h.size; simp; omega, fun k hk hne => by rw [heap_alloc_old _ _ (Nat.lt_of_lt_of_le hk h.size)]; exact h.block k hk hne⟩
theorem M.grB {w W : World} {H : Nat} (h : Below w.heap.size w W) : w.grownBy W (some H) := ⟨h.os, h.tape, h.output, h.size, fun k hk _ => h.block k hk⟩
theorem M.setTwo {W : World} {H : Nat} {v0 v1 v2 : Value} {T : TypeId} (h : W.heap[H]? = some (.cells #[v0, v1, v2] T (0, 0))) (v : Value) : (W.setCell ⟨H, 2, none⟩ v).heap[H]? = some (.cells #[v0, v1, v] T (0, 0)) := by
  simp [World.setCell, Array.getElem?_modify, h]

set_option maxRecDepth 100000 in
set_option maxHeartbeats 3200000 in
theorem sDRNum_none (w : World) (H : Nat) (t : ByteArray) (a : Nat) (hs : t.size ≤ 20000) (ha : a ≤ t.size) (h : w.heap[H]? = some (.cells #[.string t, .int .i64 (a : Int), .bool true] 102 (0, 0))) :
    Calls Try.prog 76 #[.pointer (some ⟨H, 0, none⟩)] w fun e w' => e = .returned (.int .i64 0) ∧ M.SdB w' H t none ∧ w.grownBy w' (some H) := by
  have HH := M.hl h
  have e0 := M.bk_cell h 0 _ rfl
  have e1 := M.bk_cell h 1 _ rfl
  have hlt : H < w.heap.size := (Array.getElem?_eq_some_iff.1 h).1
  have a0 : ∀ o, (w.drew.alloc o).cell? ⟨H, 0, none⟩ = some (.string t) := fun o => M.bk_cell ((heap_alloc_old w.drew o hlt).trans h) 0 _ rfl
  have a1 : ∀ o, (w.drew.alloc o).cell? ⟨H, 1, none⟩ = some (.int .i64 (a : Int)) := fun o => M.bk_cell ((heap_alloc_old w.drew o hlt).trans h) 1 _ rfl
  have CR : Hid (∀ W, Calls Try.prog 84 #[.string t, .int .i64 (a : Int)] W fun e w' => e = .returned (.agg #[.int .i64 (M.num3 t a).1, .int .i64 (M.num3 t a).2.1, .int .i64 (M.num3 t a).2.2]) ∧ Below W.heap.size W w') := fun W => sGetNum_any t a W (by unfold maxLen; omega) (by omega) (by omega)
  obtain ⟨x, y, z, hx⟩ : ∃ x y z, M.num3 t (a : Int) = (x, y, z) := ⟨_, _, _, rfl⟩
  rw [hx] at CR
  simp only at CR
  clear h hx
  go_enter Try.func76, Try.ntmps76
  go_wp2_with fail
  go_region_law (first | (refine M.stepCall2 rfl 84 (.tmp 7) (.tmp 11) 9 2 rfl (.string t) (.int .i64 (a : Int)) (by simp [Act.eval]) (by simp [Act.eval]) (.agg #[.int .i64 x, .int .i64 y, .int .i64 (z : Int)]) (fun w' => Below (w.drew).heap.size (w.drew) w') (CR.out (w.drew)) (by kernel_rfl) ?_; intro w5 hb5; have B5 := M.hl (M.sl (show Below w.heap.size w w.drew from (Below.refl _ _).drew) hb5); clear hb5) | (refine M.stepCall2 rfl 84 (.tmp 7) (.tmp 11) 9 2 rfl (.string t) (.int .i64 (a : Int)) (by simp [Act.eval]) (by simp [Act.eval]) (.agg #[.int .i64 x, .int .i64 y, .int .i64 (z : Int)]) (fun w' => Below (w.drew.alloc (.cells #[.int .i64 0, .int .i64 0, .int .i64 0] 112)).heap.size (w.drew.alloc (.cells #[.int .i64 0, .int .i64 0, .int .i64 0] 112)) w') (CR.out (w.drew.alloc (.cells #[.int .i64 0, .int .i64 0, .int .i64 0] 112))) (by kernel_rfl) ?_; intro w5 hb5; have B5 := M.hl (M.sl (show Below w.heap.size w (w.drew.alloc (.cells #[.int .i64 0, .int .i64 0, .int .i64 0] 112)) from (Below.refl w.heap.size w).drew.alloc (Nat.le_refl _) _) hb5); have H5 := M.hl (M.keepO (heap_alloc_new w.drew (.cells #[.int .i64 0, .int .i64 0, .int .i64 0] 112)) hb5); have g0 : w5.cell? ⟨w.heap.size, 0, none⟩ = some (.int .i64 0) := M.bk_cell H5.out 0 _ rfl; have g1 : w5.cell? ⟨w.heap.size, 1, none⟩ = some (.int .i64 0) := M.bk_cell H5.out 1 _ rfl; have g2 : w5.cell? ⟨w.heap.size, 2, none⟩ = some (.int .i64 0) := M.bk_cell H5.out 2 _ rfl; have fr5 : ∀ j, w5.frozen? ⟨w.heap.size, j, none⟩ = false := M.bk_free H5.out; clear hb5))
  all_goals
    have K5 := M.hl ((B5.out.block H hlt).trans HH.out)
    have c2 := M.bk_cell K5.out 2 _ rfl
    have f2 := M.bk_free K5.out 2
    have k5 : H < w5.heap.size := (Array.getElem?_eq_some_iff.1 K5.out).1
    have c2a : ∀ o, (w5.alloc o).cell? ⟨H, 2, none⟩ = some (.bool true) := fun o => M.bk_cell ((heap_alloc_old w5 o k5).trans K5.out) 2 _ rfl
    have f2a : ∀ o, (w5.alloc o).frozen? ⟨H, 2, none⟩ = false := fun o => M.bk_free ((heap_alloc_old w5 o k5).trans K5.out) 2
    have hne : ¬ (w.heap.size = H) := by omega
    clear a0 a1 e0 e1
    go_wp2
    go_ret
    refine ⟨rfl, ⟨a, ha, ?_⟩, ?_⟩
    · first
        | with_reducible exact (heap_alloc_old _ _ (by simpa [World.setCell] using k5)).trans (M.setTwo K5.out _)
        | with_reducible exact M.setTwo ((M.setfr hne).trans ((M.setfr hne).trans ((M.setfr hne).trans K5.out))) _
    · first
        | with_reducible exact M.grA (M.grS (M.grB B5.out) (.inl rfl)) _
        | with_reducible exact M.grS (M.grS (M.grS (M.grS (M.grB B5.out) (.inr (Nat.le_refl _))) (.inr (Nat.le_refl _))) (.inr (Nat.le_refl _))) (.inl rfl)
end Go.Proofs.Ytpokcbcffijheaa

/-
  What num of the specification's dump reader does where no fault stands.
-/
namespace Go.Proofs.Ytpokcbcffijheaa
open Go.RowKit

theorem M.SdB_some {W : World} {H : Nat} {t : ByteArray} {a : Nat} (h : W.heap[H]? = some (.cells #[.string t, .int .i64 (a : Int), .bool false] 102 (0, 0))) : M.SdB W H t (some a) := h
theorem M.setOne {W : World} {H : Nat} {v0 v1 v2 : Value} {T : TypeId} (h : W.heap[H]? = some (.cells #[v0, v1, v2] T (0, 0))) (v : Value) : (W.setCell ⟨H, 1, none⟩ v).heap[H]? = some (.cells #[v0, v, v2] T (0, 0)) := by
  simp [World.setCell, Array.getElem?_modify, h]

set_option maxRecDepth 100000 in
set_option maxHeartbeats 3200000 in
theorem sDRNum_some (w : World) (H : Nat) (t : ByteArray) (a : Nat) (hs : t.size ≤ 20000) (ha : a ≤ t.size) (h : w.heap[H]? = some (.cells #[.string t, .int .i64 (a : Int), .bool false] 102 (0, 0))) :
    Calls Try.prog 76 #[.pointer (some ⟨H, 0, none⟩)] w fun e w' => e = .returned (.int .i64 (M.rnum t (some a)).1) ∧ M.SdB w' H t (M.rnum t (some a)).2 ∧ w.grownBy w' (some H) := by
  have HH := M.hl h
  have e0 := M.bk_cell h 0 _ rfl
  have e1 := M.bk_cell h 1 _ rfl
  have hlt : H < w.heap.size := (Array.getElem?_eq_some_iff.1 h).1
  have a0 : ∀ o, (w.drew.alloc o).cell? ⟨H, 0, none⟩ = some (.string t) := fun o => M.bk_cell ((heap_alloc_old w.drew o hlt).trans h) 0 _ rfl
  have a1 : ∀ o, (w.drew.alloc o).cell? ⟨H, 1, none⟩ = some (.int .i64 (a : Int)) := fun o => M.bk_cell ((heap_alloc_old w.drew o hlt).trans h) 1 _ rfl
  have CR : Hid (∀ W, Calls Try.prog 84 #[.string t, .int .i64 (a : Int)] W fun e w' => e = .returned (.agg #[.int .i64 (M.num3 t a).1, .int .i64 (M.num3 t a).2.1, .int .i64 (M.num3 t a).2.2]) ∧ Below W.heap.size W w') := fun W => sGetNum_any t a W (by unfold maxLen; omega) (by omega) (by omega)
  obtain ⟨x, y, z, hx⟩ : ∃ x y z, M.num3 t (a : Int) = (x, y, z) := ⟨_, _, _, rfl⟩
  have HX := M.hl hx
  rw [hx] at CR
  simp only at CR
  clear h hx
  by_cases hz : z = 0
  · subst hz
    have HR : Hid (M.rnum t (some a) = (x, some y.toNat)) := by show _ = _; unfold M.rnum; simp only [HX.out, if_true]
    have hy0 : 0 ≤ y := by have := M.num3_ok (s := t) (n := (a : Int)) (by rw [HX.out]); rw [HX.out] at this; exact this.1
    rw [HR.out]
    obtain ⟨Y, rfl⟩ := Int.eq_ofNat_of_zero_le hy0
    rw [Int.toNat_natCast]
    clear HX HR hy0
    go_enter Try.func76, Try.ntmps76
    go_wp2_with fail
    go_region_law (first | (refine M.stepCall2 rfl 84 (.tmp 7) (.tmp 11) 9 2 rfl (.string t) (.int .i64 (a : Int)) (by simp [Act.eval]) (by simp [Act.eval]) (.agg #[.int .i64 x, .int .i64 (Y : Int), .int .i64 ((0 : Nat) : Int)]) (fun w' => Below (w.drew).heap.size (w.drew) w') (CR.out (w.drew)) (by kernel_rfl) ?_; intro w5 hb5; have B5 := M.hl (M.sl (show Below w.heap.size w w.drew from (Below.refl _ _).drew) hb5); clear hb5) | (refine M.stepCall2 rfl 84 (.tmp 7) (.tmp 11) 9 2 rfl (.string t) (.int .i64 (a : Int)) (by simp [Act.eval]) (by simp [Act.eval]) (.agg #[.int .i64 x, .int .i64 (Y : Int), .int .i64 ((0 : Nat) : Int)]) (fun w' => Below (w.drew.alloc (.cells #[.int .i64 0, .int .i64 0, .int .i64 0] 112)).heap.size (w.drew.alloc (.cells #[.int .i64 0, .int .i64 0, .int .i64 0] 112)) w') (CR.out (w.drew.alloc (.cells #[.int .i64 0, .int .i64 0, .int .i64 0] 112))) (by kernel_rfl) ?_; intro w5 hb5; have B5 := M.hl (M.sl (show Below w.heap.size w (w.drew.alloc (.cells #[.int .i64 0, .int .i64 0, .int .i64 0] 112)) from (Below.refl w.heap.size w).drew.alloc (Nat.le_refl _) _) hb5); have H5 := M.hl (M.keepO (heap_alloc_new w.drew (.cells #[.int .i64 0, .int .i64 0, .int .i64 0] 112)) hb5); have g0 : w5.cell? ⟨w.heap.size, 0, none⟩ = some (.int .i64 0) := M.bk_cell H5.out 0 _ rfl; have g1 : w5.cell? ⟨w.heap.size, 1, none⟩ = some (.int .i64 0) := M.bk_cell H5.out 1 _ rfl; have g2 : w5.cell? ⟨w.heap.size, 2, none⟩ = some (.int .i64 0) := M.bk_cell H5.out 2 _ rfl; have fr5 : ∀ j, w5.frozen? ⟨w.heap.size, j, none⟩ = false := M.bk_free H5.out; clear hb5))
    all_goals
      have K5 := M.hl ((B5.out.block H hlt).trans HH.out)
      have c1 := M.bk_cell K5.out 1 _ rfl
      have f1 := M.bk_free K5.out 1
      have c2 := M.bk_cell K5.out 2 _ rfl
      have k5 : H < w5.heap.size := (Array.getElem?_eq_some_iff.1 K5.out).1
      have c1a : ∀ o, (w5.alloc o).cell? ⟨H, 1, none⟩ = some (.int .i64 (a : Int)) := fun o => M.bk_cell ((heap_alloc_old w5 o k5).trans K5.out) 1 _ rfl
      have c2a : ∀ o, (w5.alloc o).cell? ⟨H, 2, none⟩ = some (.bool false) := fun o => M.bk_cell ((heap_alloc_old w5 o k5).trans K5.out) 2 _ rfl
      have f1a : ∀ o, (w5.alloc o).frozen? ⟨H, 1, none⟩ = false := fun o => M.bk_free ((heap_alloc_old w5 o k5).trans K5.out) 1
      have hne : ¬ (w.heap.size = H) := by omega
      clear a0 a1 e0 e1
      go_wp2
      go_ret
      refine ⟨rfl, M.SdB_some ?_, ?_⟩
      · first
          | with_reducible exact (heap_alloc_old _ _ (by simpa [World.setCell] using k5)).trans (M.setOne K5.out _)
          | with_reducible exact M.setOne ((M.setfr hne).trans ((M.setfr hne).trans ((M.setfr hne).trans K5.out))) _
      · first
          | with_reducible exact M.grA (M.grS (M.grB B5.out) (.inl rfl)) _
          | with_reducible exact M.grS (M.grS (M.grS (M.grS (M.grB B5.out) (.inr (Nat.le_refl _))) (.inr (Nat.le_refl _))) (.inr (Nat.le_refl _))) (.inl rfl)
  · have HR : Hid (M.rnum t (some a) = (0, none)) := by show _ = _; unfold M.rnum; simp only [HX.out, hz, if_false]
    rw [HR.out]
    have hq : decide (z = 0) = false := decide_eq_false hz
    have hq1 : ((z : Int) == 0) = false := by simp; omega
    have hq2 : ((z : Int) != 0) = true := by simp; omega
    clear HX HR
    go_enter Try.func76, Try.ntmps76
    go_wp2_with fail
    go_region_law (first | (refine M.stepCall2 rfl 84 (.tmp 7) (.tmp 11) 9 2 rfl (.string t) (.int .i64 (a : Int)) (by simp [Act.eval]) (by simp [Act.eval]) (.agg #[.int .i64 x, .int .i64 y, .int .i64 (z : Int)]) (fun w' => Below (w.drew).heap.size (w.drew) w') (CR.out (w.drew)) (by kernel_rfl) ?_; intro w5 hb5; have B5 := M.hl (M.sl (show Below w.heap.size w w.drew from (Below.refl _ _).drew) hb5); clear hb5) | (refine M.stepCall2 rfl 84 (.tmp 7) (.tmp 11) 9 2 rfl (.string t) (.int .i64 (a : Int)) (by simp [Act.eval]) (by simp [Act.eval]) (.agg #[.int .i64 x, .int .i64 y, .int .i64 (z : Int)]) (fun w' => Below (w.drew.alloc (.cells #[.int .i64 0, .int .i64 0, .int .i64 0] 112)).heap.size (w.drew.alloc (.cells #[.int .i64 0, .int .i64 0, .int .i64 0] 112)) w') (CR.out (w.drew.alloc (.cells #[.int .i64 0, .int .i64 0, .int .i64 0] 112))) (by kernel_rfl) ?_; intro w5 hb5; have B5 := M.hl (M.sl (show Below w.heap.size w (w.drew.alloc (.cells #[.int .i64 0, .int .i64 0, .int .i64 0] 112)) from (Below.refl w.heap.size w).drew.alloc (Nat.le_refl _) _) hb5); have H5 := M.hl (M.keepO (heap_alloc_new w.drew (.cells #[.int .i64 0, .int .i64 0, .int .i64 0] 112)) hb5); have g0 : w5.cell? ⟨w.heap.size, 0, none⟩ = some (.int .i64 0) := M.bk_cell H5.out 0 _ rfl; have g1 : w5.cell? ⟨w.heap.size, 1, none⟩ = some (.int .i64 0) := M.bk_cell H5.out 1 _ rfl; have g2 : w5.cell? ⟨w.heap.size, 2, none⟩ = some (.int .i64 0) := M.bk_cell H5.out 2 _ rfl; have fr5 : ∀ j, w5.frozen? ⟨w.heap.size, j, none⟩ = false := M.bk_free H5.out; clear hb5))
    all_goals
      have K5 := M.hl ((B5.out.block H hlt).trans HH.out)
      have c2 := M.bk_cell K5.out 2 _ rfl
      have f2 := M.bk_free K5.out 2
      have k5 : H < w5.heap.size := (Array.getElem?_eq_some_iff.1 K5.out).1
      have c2a : ∀ o, (w5.alloc o).cell? ⟨H, 2, none⟩ = some (.bool false) := fun o => M.bk_cell ((heap_alloc_old w5 o k5).trans K5.out) 2 _ rfl
      have f2a : ∀ o, (w5.alloc o).frozen? ⟨H, 2, none⟩ = false := fun o => M.bk_free ((heap_alloc_old w5 o k5).trans K5.out) 2
      have hne : ¬ (w.heap.size = H) := by omega
      clear a0 a1 e0 e1
      go_wp2
      go_ret
      refine ⟨rfl, ⟨a, ha, ?_⟩, ?_⟩
      · first
          | with_reducible exact (heap_alloc_old _ _ (by simpa [World.setCell] using k5)).trans (M.setTwo K5.out _)
          | with_reducible exact M.setTwo ((M.setfr hne).trans ((M.setfr hne).trans ((M.setfr hne).trans K5.out))) _
      · first
          | with_reducible exact M.grA (M.grS (M.grB B5.out) (.inl rfl)) _
          | with_reducible exact M.grS (M.grS (M.grS (M.grS (M.grB B5.out) (.inr (Nat.le_refl _))) (.inr (Nat.le_refl _))) (.inr (Nat.le_refl _))) (.inl rfl)
end Go.Proofs.Ytpokcbcffijheaa
