/-
  What text of the specification's dump reader does.
-/
import Derived.Test.YtpokcbcffijheaaPart9
import Derived.Test.YtpokcbcffijheaaSGetText
import Derived.Test.YtpokcbcffijheaaPart8
import Derived.Test.YtpokcbcffijheaaPart10
import Derived.Test.YtpokcbcffijheaaPart4
import Derived.Test.YtpokcbcffijheaaStepCall2
import Derived.Deep.RegionWith
namespace Go.Proofs.Ytpokcbcffijheaa
open Go.RowKit

set_option maxRecDepth 100000 in
set_option maxHeartbeats 3200000 in
theorem sDRText_none (w : World) (H : Nat) (t : ByteArray) (a : Nat) (hs : t.size ≤ 20000) (ha : a ≤ t.size) (h : w.heap[H]? = some (.cells #[.string t, .int .i64 (a : Int), .bool true] 102 (0, 0))) :
    Calls Try.prog 77 #[.pointer (some ⟨H, 0, none⟩)] w fun e w' => e = .returned (.string ⟨#[]⟩) ∧ M.SdB w' H t none ∧ w.grownBy w' (some H) := by
  have HH := M.hl h
  have e0 := M.bk_cell h 0 _ rfl
  have e1 := M.bk_cell h 1 _ rfl
  have hlt : H < w.heap.size := (Array.getElem?_eq_some_iff.1 h).1
  have a0 : ∀ o, (w.drew.alloc o).cell? ⟨H, 0, none⟩ = some (.string t) := fun o => M.bk_cell ((heap_alloc_old w.drew o hlt).trans h) 0 _ rfl
  have a1 : ∀ o, (w.drew.alloc o).cell? ⟨H, 1, none⟩ = some (.int .i64 (a : Int)) := fun o => M.bk_cell ((heap_alloc_old w.drew o hlt).trans h) 1 _ rfl
  have CR : Hid (∀ W, Calls Try.prog 85 #[.string t, .int .i64 (a : Int)] W fun e w' => e = .returned (.agg #[.string (M.txt3 t a).1, .int .i64 (M.txt3 t a).2.1, .int .i64 (M.txt3 t a).2.2]) ∧ Below W.heap.size W w') := fun W => sGetText_any t a W (by unfold maxLen; omega) (by omega) (by omega)
  obtain ⟨x, y, z, hx⟩ : ∃ x y z, M.txt3 t (a : Int) = (x, y, z) := ⟨_, _, _, rfl⟩
  have HX := M.hl hx
  rw [hx] at CR
  simp only at CR
  clear h hx
  clear HX
  go_enter Try.func77, Try.ntmps77
  go_wp2_with fail
  go_region_law (first | (refine M.stepCall2 rfl 85 (.tmp 7) (.tmp 11) 9 2 rfl (.string t) (.int .i64 (a : Int)) (by simp [Act.eval]) (by simp [Act.eval]) (.agg #[.string x, .int .i64 y, .int .i64 (z : Int)]) (fun w' => Below (w.drew).heap.size (w.drew) w') (CR.out (w.drew)) (by kernel_rfl) ?_; intro w5 hb5; have B5 := M.hl (M.sl (show Below w.heap.size w w.drew from (Below.refl _ _).drew) hb5); clear hb5) | (refine M.stepCall2 rfl 85 (.tmp 7) (.tmp 11) 9 2 rfl (.string t) (.int .i64 (a : Int)) (by simp [Act.eval]) (by simp [Act.eval]) (.agg #[.string x, .int .i64 y, .int .i64 (z : Int)]) (fun w' => Below (w.drew.alloc (.cells #[.string ⟨#[]⟩, .int .i64 0, .int .i64 0] 115)).heap.size (w.drew.alloc (.cells #[.string ⟨#[]⟩, .int .i64 0, .int .i64 0] 115)) w') (CR.out (w.drew.alloc (.cells #[.string ⟨#[]⟩, .int .i64 0, .int .i64 0] 115))) (by kernel_rfl) ?_; intro w5 hb5; have B5 := M.hl (M.sl (show Below w.heap.size w (w.drew.alloc (.cells #[.string ⟨#[]⟩, .int .i64 0, .int .i64 0] 115)) from (Below.refl w.heap.size w).drew.alloc (Nat.le_refl _) _) hb5); have H5 := M.hl (M.keepO (heap_alloc_new w.drew (.cells #[.string ⟨#[]⟩, .int .i64 0, .int .i64 0] 115)) hb5); have g0 : w5.cell? ⟨w.heap.size, 0, none⟩ = some (.string ⟨#[]⟩) := M.bk_cell H5.out 0 _ rfl; have g1 : w5.cell? ⟨w.heap.size, 1, none⟩ = some (.int .i64 0) := M.bk_cell H5.out 1 _ rfl; have g2 : w5.cell? ⟨w.heap.size, 2, none⟩ = some (.int .i64 0) := M.bk_cell H5.out 2 _ rfl; have fr5 : ∀ j, w5.frozen? ⟨w.heap.size, j, none⟩ = false := M.bk_free H5.out; clear hb5))
  all_goals
    have K5 := M.hl ((B5.out.block H hlt).trans HH.out)
    have c2 := M.bk_cell K5.out 2 _ rfl
    have f2 := M.bk_free K5.out 2
    have k5 : H < w5.heap.size := (Array.getElem?_eq_some_iff.1 K5.out).1
    have c2a : ∀ o, (w5.alloc o).cell? ⟨H, 2, none⟩ = some (.bool true) := fun o => M.bk_cell ((heap_alloc_old w5 o k5).trans K5.out) 2 _ rfl
    have f2a : ∀ o, (w5.alloc o).frozen? ⟨H, 2, none⟩ = false := fun o => M.bk_free ((heap_alloc_old w5 o k5).trans K5.out) 2
    have hne : ¬ (w.heap.size = H) := by omega
    clear a0 a1 e0 e1
    go_wp2
    go_ret
    refine ⟨rfl, ⟨a, ha, ?_⟩, ?_⟩
    · first
        | with_reducible exact (heap_alloc_old _ _ (by simpa [World.setCell] using k5)).trans (M.setTwo K5.out _)
        | with_reducible exact M.setTwo ((M.setfr hne).trans ((M.setfr hne).trans ((M.setfr hne).trans K5.out))) _
    · first
        | with_reducible exact M.grA (M.grS (M.grB B5.out) (.inl rfl)) _
        | with_reducible exact M.grS (M.grS (M.grS (M.grS (M.grB B5.out) (.inr (Nat.le_refl _))) (.inr (Nat.le_refl _))) (.inr (Nat.le_refl _))) (.inl rfl)

set_option maxRecDepth 100000 in
set_option maxHeartbeats 3200000 in
theorem sDRText_some (w : World) (H : Nat) (t : ByteArray) (a : Nat) (hs : t.size ≤ 20000) (ha : a ≤ t.size) (h : w.heap[H]? = some (.cells #[.string t, .int .i64 (a : Int), .bool false] 102 (0, 0))) :
    Calls Try.prog 77 #[.pointer (some ⟨H, 0, none⟩)] w fun e w' => e = .returned (.string (M.rtxt t (some a)).1) ∧ M.SdB w' H t (M.rtxt t (some a)).2 ∧ w.grownBy w' (some H) := by
  have HH := M.hl h
  have e0 := M.bk_cell h 0 _ rfl
  have e1 := M.bk_cell h 1 _ rfl
  have hlt : H < w.heap.size := (Array.getElem?_eq_some_iff.1 h).1
  have a0 : ∀ o, (w.drew.alloc o).cell? ⟨H, 0, none⟩ = some (.string t) := fun o => M.bk_cell ((heap_alloc_old w.drew o hlt).trans h) 0 _ rfl
  have a1 : ∀ o, (w.drew.alloc o).cell? ⟨H, 1, none⟩ = some (.int .i64 (a : Int)) := fun o => M.bk_cell ((heap_alloc_old w.drew o hlt).trans h) 1 _ rfl
  have CR : Hid (∀ W, Calls Try.prog 85 #[.string t, .int .i64 (a : Int)] W fun e w' => e = .returned (.agg #[.string (M.txt3 t a).1, .int .i64 (M.txt3 t a).2.1, .int .i64 (M.txt3 t a).2.2]) ∧ Below W.heap.size W w') := fun W => sGetText_any t a W (by unfold maxLen; omega) (by omega) (by omega)
  obtain ⟨x, y, z, hx⟩ : ∃ x y z, M.txt3 t (a : Int) = (x, y, z) := ⟨_, _, _, rfl⟩
  have HX := M.hl hx
  rw [hx] at CR
  simp only at CR
  clear h hx
  by_cases hz : z = 0
  · subst hz
    have HR : Hid (M.rtxt t (some a) = (x, some y.toNat)) := by show _ = _; unfold M.rtxt; simp only [HX.out, if_true]
    have hy0 : 0 ≤ y := by have := (M.txt_canon (s := t) (k := a) (by rw [HX.out])).2.1; rw [HX.out] at this; exact this
    rw [HR.out]
    obtain ⟨Y, rfl⟩ := Int.eq_ofNat_of_zero_le hy0
    rw [Int.toNat_natCast]
    clear HX HR hy0
    go_enter Try.func77, Try.ntmps77
    go_wp2_with fail
    go_region_law (first | (refine M.stepCall2 rfl 85 (.tmp 7) (.tmp 11) 9 2 rfl (.string t) (.int .i64 (a : Int)) (by simp [Act.eval]) (by simp [Act.eval]) (.agg #[.string x, .int .i64 (Y : Int), .int .i64 ((0 : Nat) : Int)]) (fun w' => Below (w.drew).heap.size (w.drew) w') (CR.out (w.drew)) (by kernel_rfl) ?_; intro w5 hb5; have B5 := M.hl (M.sl (show Below w.heap.size w w.drew from (Below.refl _ _).drew) hb5); clear hb5) | (refine M.stepCall2 rfl 85 (.tmp 7) (.tmp 11) 9 2 rfl (.string t) (.int .i64 (a : Int)) (by simp [Act.eval]) (by simp [Act.eval]) (.agg #[.string x, .int .i64 (Y : Int), .int .i64 ((0 : Nat) : Int)]) (fun w' => Below (w.drew.alloc (.cells #[.string ⟨#[]⟩, .int .i64 0, .int .i64 0] 115)).heap.size (w.drew.alloc (.cells #[.string ⟨#[]⟩, .int .i64 0, .int .i64 0] 115)) w') (CR.out (w.drew.alloc (.cells #[.string ⟨#[]⟩, .int .i64 0, .int .i64 0] 115))) (by kernel_rfl) ?_; intro w5 hb5; have B5 := M.hl (M.sl (show Below w.heap.size w (w.drew.alloc (.cells #[.string ⟨#[]⟩, .int .i64 0, .int .i64 0] 115)) from (Below.refl w.heap.size w).drew.alloc (Nat.le_refl _) _) hb5); have H5 := M.hl (M.keepO (heap_alloc_new w.drew (.cells #[.string ⟨#[]⟩, .int .i64 0, .int .i64 0] 115)) hb5); have g0 : w5.cell? ⟨w.heap.size, 0, none⟩ = some (.string ⟨#[]⟩) := M.bk_cell H5.out 0 _ rfl; have g1 : w5.cell? ⟨w.heap.size, 1, none⟩ = some (.int .i64 0) := M.bk_cell H5.out 1 _ rfl; have g2 : w5.cell? ⟨w.heap.size, 2, none⟩ = some (.int .i64 0) := M.bk_cell H5.out 2 _ rfl; have fr5 : ∀ j, w5.frozen? ⟨w.heap.size, j, none⟩ = false := M.bk_free H5.out; clear hb5))
    all_goals
      have K5 := M.hl ((B5.out.block H hlt).trans HH.out)
      have c1 := M.bk_cell K5.out 1 _ rfl
      have f1 := M.bk_free K5.out 1
      have c2 := M.bk_cell K5.out 2 _ rfl
      have k5 : H < w5.heap.size := (Array.getElem?_eq_some_iff.1 K5.out).1
      have c1a : ∀ o, (w5.alloc o).cell? ⟨H, 1, none⟩ = some (.int .i64 (a : Int)) := fun o => M.bk_cell ((heap_alloc_old w5 o k5).trans K5.out) 1 _ rfl
      have c2a : ∀ o, (w5.alloc o).cell? ⟨H, 2, none⟩ = some (.bool false) := fun o => M.bk_cell ((heap_alloc_old w5 o k5).trans K5.out) 2 _ rfl
      have f1a : ∀ o, (w5.alloc o).frozen? ⟨H, 1, none⟩ = false := fun o => M.bk_free ((heap_alloc_old w5 o k5).trans K5.out) 1
      have hne : ¬ (w.heap.size = H) := by omega
      clear a0 a1 e0 e1
      go_wp2
      go_ret
      refine ⟨rfl, M.SdB_some ?_, ?_⟩
      · first
          | with_reducible exact (heap_alloc_old _ _ (by simpa [World.setCell] using k5)).trans (M.setOne K5.out _)
          | with_reducible exact M.setOne ((M.setfr hne).trans ((M.setfr hne).trans ((M.setfr hne).trans K5.out))) _
      · first
          | with_reducible exact M.grA (M.grS (M.grB B5.out) (.inl rfl)) _
          | with_reducible exact M.grS (M.grS (M.grS (M.grS (M.grB B5.out) (.inr (Nat.le_refl _))) (.inr (Nat.le_refl _))) (.inr (Nat.le_refl _))) (.inl rfl)
  · have HR : Hid (M.rtxt t (some a) = (⟨#[]⟩, none)) := by show _ = _; unfold M.rtxt; simp only [HX.out, hz, if_false]
    rw [HR.out]
    have hq : decide (z = 0) = false := decide_eq_false hz
    have hq1 : ((z : Int) == 0) = false := by simp; omega
    have hq2 : ((z : Int) != 0) = true := by simp; omega
    clear HX HR
    go_enter Try.func77, Try.ntmps77
    go_wp2_with fail
    go_region_law (first | (refine M.stepCall2 rfl 85 (.tmp 7) (.tmp 11) 9 2 rfl (.string t) (.int .i64 (a : Int)) (by simp [Act.eval]) (by simp [Act.eval]) (.agg #[.string x, .int .i64 y, .int .i64 (z : Int)]) (fun w' => Below (w.drew).heap.size (w.drew) w') (CR.out (w.drew)) (by kernel_rfl) ?_; intro w5 hb5; have B5 := M.hl (M.sl (show Below w.heap.size w w.drew from (Below.refl _ _).drew) hb5); clear hb5) | (refine M.stepCall2 rfl 85 (.tmp 7) (.tmp 11) 9 2 rfl (.string t) (.int .i64 (a : Int)) (by simp [Act.eval]) (by simp [Act.eval]) (.agg #[.string x, .int .i64 y, .int .i64 (z : Int)]) (fun w' => Below (w.drew.alloc (.cells #[.string ⟨#[]⟩, .int .i64 0, .int .i64 0] 115)).heap.size (w.drew.alloc (.cells #[.string ⟨#[]⟩, .int .i64 0, .int .i64 0] 115)) w') (CR.out (w.drew.alloc (.cells #[.string ⟨#[]⟩, .int .i64 0, .int .i64 0] 115))) (by kernel_rfl) ?_; intro w5 hb5; have B5 := M.hl (M.sl (show Below w.heap.size w (w.drew.alloc (.cells #[.string ⟨#[]⟩, .int .i64 0, .int .i64 0] 115)) from (Below.refl w.heap.size w).drew.alloc (Nat.le_refl _) _) hb5); have H5 := M.hl (M.keepO (heap_alloc_new w.drew (.cells #[.string ⟨#[]⟩, .int .i64 0, .int .i64 0] 115)) hb5); have g0 : w5.cell? ⟨w.heap.size, 0, none⟩ = some (.string ⟨#[]⟩) := M.bk_cell H5.out 0 _ rfl; have g1 : w5.cell? ⟨w.heap.size, 1, none⟩ = some (.int .i64 0) := M.bk_cell H5.out 1 _ rfl; have g2 : w5.cell? ⟨w.heap.size, 2, none⟩ = some (.int .i64 0) := M.bk_cell H5.out 2 _ rfl; have fr5 : ∀ j, w5.frozen? ⟨w.heap.size, j, none⟩ = false := M.bk_free H5.out; clear hb5))
    all_goals
      have K5 := M.hl ((B5.out.block H hlt).trans HH.out)
      have c2 := M.bk_cell K5.out 2 _ rfl
      have f2 := M.bk_free K5.out 2
      have k5 : H < w5.heap.size := (Array.getElem?_eq_some_iff.1 K5.out).1
      have c2a : ∀ o, (w5.alloc o).cell? ⟨H, 2, none⟩ = some (.bool false) := fun o => M.bk_cell ((heap_alloc_old w5 o k5).trans K5.out) 2 _ rfl
      have f2a : ∀ o, (w5.alloc o).frozen? ⟨H, 2, none⟩ = false := fun o => M.bk_free ((heap_alloc_old w5 o k5).trans K5.out) 2
      have hne : ¬ (w.heap.size = H) := by omega
      clear a0 a1 e0 e1
      go_wp2
      go_ret
      refine ⟨rfl, ⟨a, ha, ?_⟩, ?_⟩
      · first
          | with_reducible exact (heap_alloc_old _ _ (by simpa [World.setCell] using k5)).trans (M.setTwo K5.out _)
          | with_reducible exact M.setTwo ((M.setfr hne).trans ((M.setfr hne).trans ((M.setfr hne).trans K5.out))) _
      · first
          | with_reducible exact M.grA (M.grS (M.grB B5.out) (.inl rfl)) _
          | with_reducible exact M.grS (M.grS (M.grS (M.grS (M.grB B5.out) (.inr (Nat.le_refl _))) (.inr (Nat.le_refl _))) (.inr (Nat.le_refl _))) (.inl rfl)
end Go.Proofs.Ytpokcbcffijheaa

/-
  What num of the program's dump reader does.
-/
namespace Go.Proofs.Ytpokcbcffijheaa
open Go.RowKit

/-- The reader's box: the text, the place, and whether a fault was found. -/
def M.RdB (W : World) (H : Nat) (t : ByteArray) (st : Option Nat) : Prop :=
  match st with
  | some a => W.heap[H]? = some (.cells #[.string t, .int .i64 (a : Int), .nilIface] 70 (0, 0))
  | none => ∃ (z : Int) (c : Nat), c ≠ 0 ∧ W.heap[H]? = some (.cells #[.string t, .int .i64 z, M.errV c] 70 (0, 0))

set_option maxRecDepth 100000 in
set_option maxHeartbeats 3200000 in
theorem iDRNum_none (w : World) (H : Nat) (t : ByteArray) (h : M.RdB w H t none) :
    Calls Try.prog 73 #[.pointer (some ⟨H, 0, none⟩)] w fun e w' => e = .returned (.int .i64 0) ∧ w = w' := by
  obtain ⟨z, c, hc, hh⟩ := h
  rw [M.errV_no hc] at hh
  have e2 := M.bk_cell hh 2 _ rfl
  clear hh
  go_enter Try.func73, Try.ntmps73
  go_wp2
  go_ret
  exact ⟨rfl, rfl⟩

theorem M.grdr0 (w : World) (H : Nat) : w.grownBy w.drew (some H) := ⟨rfl, rfl, rfl, Nat.le_refl _, fun _ _ _ => rfl⟩
theorem M.grdr1 {w W : World} {H j : Nat} {v : Value} (h : w.grownBy W (some H)) : w.grownBy (W.setCell ⟨H, j, none⟩ v) (some H) :=
  ⟨h.os, h.tape, h.output, by have := h.size; simp [World.setCell]; omega, fun k hk hne => by
    rw [Below.heap_setCell W ⟨H, j, none⟩ v k (fun e => hne (by rw [e]))]; exact h.block k hk hne⟩
theorem M.set12 {W : World} {H : Nat} {v0 v1 v2 : Value} {T : TypeId} (h : W.heap[H]? = some (.cells #[v0, v1, v2] T (0, 0))) (u v : Value) : ((W.setCell ⟨H, 1, none⟩ u).setCell ⟨H, 2, none⟩ v).heap[H]? = some (.cells #[v0, u, v] T (0, 0)) := by
  simp [World.setCell, Array.getElem?_modify, h]
theorem M.num3_bad {s : ByteArray} {n : Int} {x y : Int} {z : Nat} (h : M.num3 s n = (x, y, z)) (hz : z ≠ 0) : x = 0 := by
  unfold M.num3 at h
  split at h
  · cases h; rfl
  split at h
  · cases h; rfl
  · simp only [Prod.mk.injEq] at h
    obtain ⟨h1, -, h3⟩ := h
    rw [h3, if_neg hz] at h1
    exact h1.symm

set_option maxRecDepth 100000 in
set_option maxHeartbeats 3200000 in
theorem iDRNum_some (w : World) (H : Nat) (t : ByteArray) (a : Nat) (hs : t.size ≤ 20000) (ha : a ≤ 20000) (h : M.RdB w H t (some a)) :
    Calls Try.prog 73 #[.pointer (some ⟨H, 0, none⟩)] w fun e w' => e = .returned (.int .i64 (M.rnum t (some a)).1) ∧ M.RdB w' H t (M.rnum t (some a)).2 ∧ w.grownBy w' (some H) := by
  have h : w.heap[H]? = some (.cells #[.string t, .int .i64 (a : Int), .nilIface] 70 (0, 0)) := h
  have HH := M.hl h
  have e0 := M.bk_cell h 0 _ rfl
  have e1 := M.bk_cell h 1 _ rfl
  have e2 := M.bk_cell h 2 _ rfl
  have fr := M.bk_free h
  have CR : Hid (∀ W, Calls Try.prog 82 #[.string t, .int .i64 (a : Int)] W fun e w' => e = .returned (.tuple #[.int .i64 (M.num3 t a).1, .int .i64 (M.num3 t a).2.1, M.errV (M.num3 t a).2.2]) ∧ W = w') := fun W => readNum_any t a W (by unfold maxLen; omega) (by omega) (by omega)
  obtain ⟨x, y, z, hx⟩ : ∃ x y z, M.num3 t (a : Int) = (x, y, z) := ⟨_, _, _, rfl⟩
  have HX := M.hl hx
  rw [hx] at CR
  simp only at CR
  have BD : Hid (∀ (u v : Value), w.grownBy ((w.drew.setCell ⟨H, 1, none⟩ u).setCell ⟨H, 2, none⟩ v) (some H)) := fun u v => M.grdr1 (M.grdr1 (M.grdr0 w H))
  clear h hx
  by_cases hz : z = 0
  · subst hz
    rw [M.errV_ok] at CR
    have HR : Hid (M.rnum t (some a) = (x, some y.toNat)) := by show _ = _; unfold M.rnum; simp only [HX.out, if_true]
    have hy0 : 0 ≤ y := by have := M.num3_ok (s := t) (n := (a : Int)) (by rw [HX.out]); rw [HX.out] at this; exact this.1
    rw [HR.out]
    obtain ⟨Y, rfl⟩ := Int.eq_ofNat_of_zero_le hy0
    have HN : Hid (∀ W : World, W.heap[H]? = w.heap[H]? → M.RdB ((W.setCell ⟨H, 1, none⟩ (.int .i64 (Y : Int))).setCell ⟨H, 2, none⟩ .nilIface) H t (some (Y : Int).toNat)) := fun W hW => by
      show _ = _
      rw [Int.toNat_natCast]
      exact M.set12 (hW.trans HH.out) _ _
    go_enter Try.func73, Try.ntmps73
    go_wp2_with fail
    go_region_law (refine M.stepCall2 rfl 82 (.tmp 15) (.tmp 19) 9 2 rfl (.string t) (.int .i64 (a : Int)) (by simp [Act.eval]) (by simp [Act.eval]) (.tuple #[.int .i64 x, .int .i64 (Y : Int), .nilIface]) (fun w' => w.drew = w') (CR.out w.drew) (by kernel_rfl) ?_; rintro w5 rfl)
    all_goals
      go_wp2
      go_ret
      exact ⟨rfl, HN.out w.drew rfl, BD.out _ _⟩
  · have HR : Hid (M.rnum t (some a) = (0, none)) := by show _ = _; unfold M.rnum; simp only [HX.out, hz, if_false]
    have hx0 : x = 0 := M.num3_bad HX.out hz
    subst hx0
    rw [M.errV_no hz] at CR
    rw [HR.out]
    go_enter Try.func73, Try.ntmps73
    go_wp2_with fail
    go_region_law (refine M.stepCall2 rfl 82 (.tmp 15) (.tmp 19) 9 2 rfl (.string t) (.int .i64 (a : Int)) (by simp [Act.eval]) (by simp [Act.eval]) (.tuple #[.int .i64 0, .int .i64 y, .iface 121 (.agg #[.int .i64 (z : Int)])]) (fun w' => w.drew = w') (CR.out w.drew) (by kernel_rfl) ?_; rintro w5 rfl)
    all_goals
      go_wp2
      go_ret
      exact ⟨rfl, ⟨y, z, hz, by rw [M.errV_no hz]; exact M.set12 HH.out _ _⟩, BD.out _ _⟩
end Go.Proofs.Ytpokcbcffijheaa

/-
  What name of the program's dump reader does.
-/
namespace Go.Proofs.Ytpokcbcffijheaa
open Go.RowKit

theorem M.txt3_bad {s : ByteArray} {n : Int} {x : ByteArray} {y : Int} {z : Nat} (h : M.txt3 s n = (x, y, z)) (hz : z ≠ 0) : x = ⟨#[]⟩ := by
  unfold M.txt3 at h
  split at h
  · cases h; rfl
  split at h
  · cases h; rfl
  split at h
  · cases h; rfl
  · simp only [Prod.mk.injEq] at h
    exact absurd h.2.2.symm hz

set_option maxRecDepth 100000 in
set_option maxHeartbeats 3200000 in
theorem iDRName_none (w : World) (H : Nat) (t : ByteArray) (h : M.RdB w H t none) :
    Calls Try.prog 74 #[.pointer (some ⟨H, 0, none⟩)] w fun e w' => e = .returned (.string ⟨#[]⟩) ∧ w = w' := by
  obtain ⟨z, c, hc, hh⟩ := h
  rw [M.errV_no hc] at hh
  have e2 := M.bk_cell hh 2 _ rfl
  clear hh
  go_enter Try.func74, Try.ntmps74
  go_wp2
  go_ret
  exact ⟨rfl, rfl⟩

set_option maxRecDepth 100000 in
set_option maxHeartbeats 3200000 in
theorem iDRName_some (w : World) (H : Nat) (t : ByteArray) (a : Nat) (hs : t.size ≤ 20000) (ha : a ≤ 20000) (h : M.RdB w H t (some a)) :
    Calls Try.prog 74 #[.pointer (some ⟨H, 0, none⟩)] w fun e w' => e = .returned (.string (M.rtxt t (some a)).1) ∧ M.RdB w' H t (M.rtxt t (some a)).2 ∧ w.grownBy w' (some H) := by
  have h : w.heap[H]? = some (.cells #[.string t, .int .i64 (a : Int), .nilIface] 70 (0, 0)) := h
  have HH := M.hl h
  have e0 := M.bk_cell h 0 _ rfl
  have e1 := M.bk_cell h 1 _ rfl
  have e2 := M.bk_cell h 2 _ rfl
  have fr := M.bk_free h
  have CR : Hid (∀ W, Calls Try.prog 83 #[.string t, .int .i64 (a : Int)] W fun e w' => e = .returned (.tuple #[.string (M.txt3 t a).1, .int .i64 (M.txt3 t a).2.1, M.errV (M.txt3 t a).2.2]) ∧ Below W.heap.size W w') := fun W => readText_any t a W (by unfold maxLen; omega) (by omega) (by omega)
  obtain ⟨x, y, z, hx⟩ : ∃ x y z, M.txt3 t (a : Int) = (x, y, z) := ⟨_, _, _, rfl⟩
  have HX := M.hl hx
  rw [hx] at CR
  simp only at CR
  have BD : Hid (∀ (W : World) (u v : Value), Below w.drew.heap.size w.drew W → w.grownBy ((W.setCell ⟨H, 1, none⟩ u).setCell ⟨H, 2, none⟩ v) (some H)) := fun W u v hW => M.grdr1 (M.grdr1 ⟨hW.os, hW.tape.trans rfl, hW.output, hW.size, fun k hk _ => hW.block k hk⟩)
  have HHd : Hid (w.drew.heap[H]? = some (.cells #[.string t, .int .i64 (a : Int), .nilIface] 70 (0, 0))) := h
  clear h hx
  by_cases hz : z = 0
  · subst hz
    rw [M.errV_ok] at CR
    have HR : Hid (M.rtxt t (some a) = (x, some y.toNat)) := by show _ = _; unfold M.rtxt; simp only [HX.out, if_true]
    have hy0 : 0 ≤ y := by have := (M.txt_canon (s := t) (k := a) (by rw [HX.out])).2.1; rw [HX.out] at this; exact this
    rw [HR.out]
    obtain ⟨Y, rfl⟩ := Int.eq_ofNat_of_zero_le hy0
    have HN : Hid (∀ W : World, W.heap[H]? = w.heap[H]? → M.RdB ((W.setCell ⟨H, 1, none⟩ (.int .i64 (Y : Int))).setCell ⟨H, 2, none⟩ .nilIface) H t (some (Y : Int).toNat)) := fun W hW => by
      show _ = _
      rw [Int.toNat_natCast]
      exact M.set12 (hW.trans HH.out) _ _
    go_enter Try.func74, Try.ntmps74
    go_wp2_with fail
    go_region_law (refine M.stepCall2 rfl 83 (.tmp 15) (.tmp 19) 9 2 rfl (.string t) (.int .i64 (a : Int)) (by simp [Act.eval]) (by simp [Act.eval]) (.tuple #[.string x, .int .i64 (Y : Int), .nilIface]) (fun w' => Below w.drew.heap.size w.drew w') (CR.out w.drew) (by kernel_rfl) ?_; intro w5 hb5; have H5 := M.hl (M.keepO HHd.out hb5); have B5 := M.hl hb5; have g1 := M.bk_cell H5.out 1 _ rfl; have g2 := M.bk_cell H5.out 2 _ rfl; have fr5 := M.bk_free H5.out; clear hb5)
    all_goals
      go_wp2
      go_ret
      exact ⟨rfl, HN.out w5 (H5.out.trans HH.out.symm), BD.out _ _ _ B5.out⟩
  · have HR : Hid (M.rtxt t (some a) = (⟨#[]⟩, none)) := by show _ = _; unfold M.rtxt; simp only [HX.out, hz, if_false]
    have hx0 : x = ⟨#[]⟩ := M.txt3_bad HX.out hz
    subst hx0
    rw [M.errV_no hz] at CR
    rw [HR.out]
    go_enter Try.func74, Try.ntmps74
    go_wp2_with fail
    go_region_law (refine M.stepCall2 rfl 83 (.tmp 15) (.tmp 19) 9 2 rfl (.string t) (.int .i64 (a : Int)) (by simp [Act.eval]) (by simp [Act.eval]) (.tuple #[.string ⟨#[]⟩, .int .i64 y, .iface 121 (.agg #[.int .i64 (z : Int)])]) (fun w' => Below w.drew.heap.size w.drew w') (CR.out w.drew) (by kernel_rfl) ?_; intro w5 hb5; have H5 := M.hl (M.keepO HHd.out hb5); have B5 := M.hl hb5; have g1 := M.bk_cell H5.out 1 _ rfl; have g2 := M.bk_cell H5.out 2 _ rfl; have fr5 := M.bk_free H5.out; clear hb5)
    all_goals
      go_wp2
      go_ret
      exact ⟨rfl, ⟨y, z, hz, by rw [M.errV_no hz]; exact M.set12 H5.out _ _⟩, BD.out _ _ _ B5.out⟩
end Go.Proofs.Ytpokcbcffijheaa
