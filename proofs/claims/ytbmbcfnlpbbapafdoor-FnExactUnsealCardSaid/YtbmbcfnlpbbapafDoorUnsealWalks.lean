/-
  What Unseal of the specification does, and the law over both.
-/
import Derived.Test.YtbmbcfnlpbbapafDoorIUnseal
import Derived.Test.YtbmbcfnlpbbapafDoorEqText
import Derived.Deep.RegionWith
namespace Go.Proofs.YtbmbcfnlpbbapafDoor
open Go.RowKit

theorem M.fin3 {w w2 : World} {o1 : Obj} {v0 v1 v2 : Value} (hb : Below (w.alloc o1).drew.heap.size (w.alloc o1).drew w2) :
    Below w.heap.size w (((w2.setCell ⟨w.heap.size, 0, none⟩ v0).setCell ⟨w.heap.size, 1, none⟩ v1).setCell ⟨w.heap.size, 2, none⟩ v2) := by
  refine ((Below.setCell ?_ (by exact Nat.le_refl _) _).setCell (by exact Nat.le_refl _) _).setCell (by exact Nat.le_refl _) _
  exact (((Below.refl w.heap.size w).alloc (Nat.le_refl _) o1).drew).trans (hb.mono (by simp))

set_option maxRecDepth 100000 in
set_option maxHeartbeats 1600000 in
theorem sUnseal_any (s : ByteArray) (w : World) (hs : s.size ≤ maxLen) :
    Calls Tryd.prog 8 #[.string s] w fun e w' => e = .returned (.agg #[.string (M.uns s).1, .int .i64 0, .int .i64 (M.uns s).2]) ∧ Below w.heap.size w w' := by
  unfold maxLen at hs
  by_cases h : 20000 < s.size
  · rw [M.uns_size h]
    go_enter Tryd.func8, Tryd.ntmps8
    go_wp2
    exact bodyPost_ret (v := .agg #[.string ⟨#[]⟩, .int .i64 0, .int .i64 2]) (by simp [results, Tryd.results8, go_sem]) rfl ⟨rfl, (Below.refl _ _).alloc (Nat.le_refl _) _⟩
  by_cases h4 : s.size < 4
  · rw [M.uns_short h h4]
    go_enter Tryd.func8, Tryd.ntmps8
    go_wp2
    exact bodyPost_ret (v := .agg #[.string ⟨#[]⟩, .int .i64 0, .int .i64 4]) (by simp [results, Tryd.results8, go_sem]) rfl ⟨rfl, (Below.refl _ _).alloc (Nat.le_refl _) _⟩
  have hC : ∀ W, Calls Tryd.prog 14 #[.int .i64 0, .string (s.extract 0 (s.size - 4))] W fun e w' => e = .returned (.int .i64 (M.crcMore 0 (s.extract 0 (s.size - 4)))) ∧ W = w' := fun W => by
    have hsz := M.extract_size s 0 (s.size - 4) (by omega) (by omega)
    rw [M.crcMore_yes (by omega)]; exact sCrc_in 0 _ W (by omega) (by omega)
  obtain ⟨h0, h9⟩ := M.crcMore_range (s.extract 0 (s.size - 4))
  have HC : Hid _ := hC
  clear hC
  have hsl : ∀ W, (Instr.slice 9 (.string s) (some (.int .i64 ((s.size : Int) - 4))) none none).run Tryd.prog W = .ok (.string (s.extract (s.size - 4) s.size)) W := fun W => by
    have e := run_slice_string_l (P := Tryd.prog) (w := W) (t := 9) (s := s) Tryd.underlying9 .i64 ((s.size : Int) - 4) (by omega) (by omega)
    rwa [show ((s.size : Int) - 4).toNat = s.size - 4 by omega] at e
  have hwr : IntKind.i64.wrap ((s.size : Int) - 4) = (s.size : Int) - 4 := by
    rw [IntKind.wrap_i64]; omega
  have hT := M.sealed_tail h h4
  cases hq : M.sealed s
  · rw [hq] at hT
    rw [M.uns_sum h h4 hq]
    rw [ByteArray.toList_mk] at hT
    clear hq
    go_enter Tryd.func8, Tryd.ntmps8
    go_wp2_with fail
    go_region_with (first | (go_at_call 14; refine (HC.out _).mono ?_; rintro e w1 ⟨rfl, rfl⟩) | (go_at_call 13; refine (sFour_any _ _ h0 h9).mono ?_; rintro e w2 ⟨rfl, hb2⟩; obtain ⟨hc1, hf1⟩ := M.bcell hb2; have hz1 : w.heap.size < w2.heap.size := (by have := hb2.size; simp at this; omega); have c0 : w2.cell? ⟨w.heap.size, 0, none⟩ = some (.string ⟨#[]⟩) := (by rw [hc1 _ _ (by simp)]; simp); have c1 : w2.cell? ⟨w.heap.size, 1, none⟩ = some (.int .i64 0) := (by rw [hc1 _ _ (by simp)]; simp); have c2 : w2.cell? ⟨w.heap.size, 2, none⟩ = some (.int .i64 0) := (by rw [hc1 _ _ (by simp)]; simp)))
    all_goals go_wp2
    all_goals exact bodyPost_ret (v := .agg #[.string ⟨#[]⟩, .int .i64 0, .int .i64 5]) (by simp [results, Tryd.results8, go_sem, c0, c1, c2]) rfl ⟨rfl, M.fin3 hb2⟩
  · rw [hq] at hT
    rw [M.uns_ok h h4 hq]
    rw [ByteArray.toList_mk] at hT
    clear hq
    go_enter Tryd.func8, Tryd.ntmps8
    go_wp2_with fail
    go_region_with (first | (go_at_call 14; refine (HC.out _).mono ?_; rintro e w1 ⟨rfl, rfl⟩) | (go_at_call 13; refine (sFour_any _ _ h0 h9).mono ?_; rintro e w2 ⟨rfl, hb2⟩; obtain ⟨hc1, hf1⟩ := M.bcell hb2; have hz1 : w.heap.size < w2.heap.size := (by have := hb2.size; simp at this; omega); have c0 : w2.cell? ⟨w.heap.size, 0, none⟩ = some (.string ⟨#[]⟩) := (by rw [hc1 _ _ (by simp)]; simp); have c1 : w2.cell? ⟨w.heap.size, 1, none⟩ = some (.int .i64 0) := (by rw [hc1 _ _ (by simp)]; simp); have c2 : w2.cell? ⟨w.heap.size, 2, none⟩ = some (.int .i64 0) := (by rw [hc1 _ _ (by simp)]; simp)))
    all_goals go_wp2
    all_goals exact bodyPost_ret (v := .agg #[.string (s.extract 0 (s.size - 4)), .int .i64 0, .int .i64 0]) (by simp [results, Tryd.results8, go_sem, c0, c1, c2]) rfl ⟨rfl, M.fin3 hb2⟩
set_option maxRecDepth 100000 in
set_option maxHeartbeats 800000 in
theorem fnExactUnseal_walk (s : ByteArray) (w : World) (hs : s.size ≤ maxLen) (hg : M.errT w) :
    Calls Tryd.prog 4 #[.string s] w fun e w' => e = .returned (.bool true) ∧ Below w.heap.size w w' := by
  have hs' := hs
  unfold maxLen at hs'
  by_cases h : 1048576 < s.size
  · clear hg
    go_enter Tryd.func4, Tryd.ntmps4
    go_wp2
    go_ret
    exact ⟨rfl, Below.refl _ _⟩
  · have hS := fun W => sUnseal_any s W hs
    have hI := fun W hg => iUnseal_any s W hs hg
    revert hS hI
    generalize (M.uns s).1 = A, (M.uns s).2 = c
    intro hS hI
    have HS : Hid _ := hS
    have HI : Hid _ := hI
    have HG : Hid (M.errT w) := hg
    clear hS hI hg
    go_enter Tryd.func4, Tryd.ntmps4
    go_wp2_with (go_at_call 8; refine (HS.out _).mono ?_; rintro e w1 ⟨rfl, hb1⟩)
    have HB1 : Hid (Below w.heap.size w w1) := hb1
    have hg1 := M.errT_alloc (M.errT_below HG.out hb1) (.cells #[.string A, .int .i64 0, .int .i64 c] 23)
    refine (HI.out _ hg1).mono ?_
    rintro e w2 ⟨rfl, hb2⟩
    obtain ⟨hc, hf⟩ := M.bcell hb2
    have hz : w1.heap.size < w2.heap.size := by have := hb2.size; simp at this; omega
    have HB2 : Hid (Below (w1.alloc (.cells #[.string A, .int .i64 0, .int .i64 c] 23)).heap.size (w1.alloc (.cells #[.string A, .int .i64 0, .int .i64 c] 23)) w2) := hb2
    clear hb1 hb2 hg1
    go_wp2_with (go_at_call 7; refine (eqTextOut_same A 0 c _).mono ?_; rintro e w3 ⟨rfl, hb3⟩)
    go_ret
    have hs1 := HB1.out.size
    have hs2 := HB2.out.size
    simp at hs2
    refine ⟨rfl, ?_⟩
    refine Below.trans ?_ (hb3.mono (by simp; omega))
    refine Below.alloc ?_ (by omega) _
    refine Below.trans ?_ (HB2.out.mono (by simp; omega))
    exact HB1.out.alloc hs1 _
end Go.Proofs.YtbmbcfnlpbbapafDoor
