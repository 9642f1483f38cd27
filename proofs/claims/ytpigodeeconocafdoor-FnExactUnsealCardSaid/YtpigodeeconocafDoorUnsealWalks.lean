/-
  What Unseal of the specification and of the program do, and the law over them.
-/
import Derived.Test.YtpigodeeconocafDoorPieceWalk
import Derived.Test.YtpigodeeconocafDoorSealBase
import Derived.Test.YtpigodeeconocafDoorEqText
import Derived.Deep.RegionWith
namespace Go.Proofs.YtpigodeeconocafDoor
open Go.RowKit

/-- Is it a seal of all but its last four bytes? -/
def M.sealed (s : ByteArray) : Bool := (M.seal (s.extract 0 (s.size - 4))).toList == s.toList
theorem M.sealed_tail {s : ByteArray} (hs : ¬ 20000 < s.size) (h4 : ¬ s.size < 4) :
    ((⟨(M.four (M.crcMore 0 (s.extract 0 (s.size - 4)))).toArray⟩ : ByteArray).toList == (s.extract (s.size - 4) s.size).toList) = M.sealed s := by
  have hsz := M.extract_size s 0 (s.size - 4) (by omega) (by omega)
  unfold M.sealed
  rw [M.seal_small (by omega)]
  generalize hf : (⟨(M.four (M.crcMore 0 (s.extract 0 (s.size - 4)))).toArray⟩ : ByteArray) = f
  have e1 : (s.extract 0 (s.size - 4) ++ f).toList = s.toList.take (s.size - 4) ++ f.toList := by
    rw [ByteArray.toList_eq, ByteArray.data_append, Array.toList_append, ← ByteArray.toList_eq, ← ByteArray.toList_eq, Lib.extract_toList, ByteArray.toList_eq s]; simp
  have e2 : (s.extract (s.size - 4) s.size).toList = s.toList.drop (s.size - 4) := by
    rw [Lib.extract_toList, ByteArray.toList_eq s, List.take_of_length_le]; simp
  rw [e1, e2]
  conv => rhs; rhs; rw [← List.take_append_drop (s.size - 4) s.toList]
  rw [Bool.eq_iff_iff, beq_iff_eq, beq_iff_eq]
  exact ⟨fun h => by rw [h], fun h => List.append_cancel_left h⟩

/-- Unseal's text and code. -/
def M.uns (s : ByteArray) : ByteArray × Nat :=
  if 20000 < s.size then (⟨#[]⟩, 2) else if s.size < 4 then (⟨#[]⟩, 4) else if M.sealed s = true then (s.extract 0 (s.size - 4), 0) else (⟨#[]⟩, 5)
theorem M.uns_size {s : ByteArray} (h : 20000 < s.size) : M.uns s = (⟨#[]⟩, 2) := by unfold M.uns; rw [if_pos h]
theorem M.uns_short {s : ByteArray} (h : ¬ 20000 < s.size) (h4 : s.size < 4) : M.uns s = (⟨#[]⟩, 4) := by unfold M.uns; rw [if_neg h, if_pos h4]
theorem M.uns_ok {s : ByteArray} (h : ¬ 20000 < s.size) (h4 : ¬ s.size < 4) (hq : M.sealed s = true) : M.uns s = (s.extract 0 (s.size - 4), 0) := by unfold M.uns; rw [if_neg h, if_neg h4, if_pos hq]
theorem M.uns_sum {s : ByteArray} (h : ¬ 20000 < s.size) (h4 : ¬ s.size < 4) (hq : M.sealed s = false) : M.uns s = (⟨#[]⟩, 5) := by unfold M.uns; rw [if_neg h, if_neg h4, if_neg (by simp [hq])]

set_option maxRecDepth 100000 in
set_option maxHeartbeats 1600000 in
theorem readSealed_any (s : ByteArray) (w : World) (hs : s.size ≤ maxLen) :
    Calls Tryd.prog 15 #[.string s] w fun e w' => e = .returned (.tuple #[.string (M.uns s).1, M.errV (M.uns s).2]) ∧ Below w.heap.size w w' := by
  unfold maxLen at hs
  by_cases h : 20000 < s.size
  · rw [M.uns_size h, M.errV_no (by decide)]
    go_enter Tryd.func15, Tryd.ntmps15
    go_wp2
    go_ret2
    exact ⟨rfl, Below.refl _ _⟩
  by_cases h4 : s.size < 4
  · rw [M.uns_short h h4, M.errV_no (by decide)]
    go_enter Tryd.func15, Tryd.ntmps15
    go_wp2
    go_ret2
    exact ⟨rfl, Below.refl _ _⟩
  have hP : ∀ W, Calls Tryd.prog 17 #[.string s, .int .i64 0, .int .i64 ((s.size : Int) - 4)] W fun e w' => e = .returned (.string (s.extract 0 (s.size - 4))) ∧ Below W.heap.size W w' := fun W => by
    have := pieceOf_any s 0 (s.size - 4) W (by omega) (by omega) (by omega)
    rwa [show ((s.size - 4 : Nat) : Int) = (s.size : Int) - 4 by omega] at this
  have HP : Hid _ := hP
  clear hP
  cases hq : M.sealed s
  · rw [M.uns_sum h h4 hq, M.errV_no (by decide)]
    unfold M.sealed at hq
    generalize hb : s.extract 0 (s.size - 4) = b at HP hq
    have hbs : b.size ≤ maxLen := by
      have := M.extract_size s 0 (s.size - 4) (by omega) (by omega)
      rw [hb] at this; unfold maxLen; omega
    clear hb
    go_enter Tryd.func15, Tryd.ntmps15
    go_wp2_with (first | (go_at_call 17; refine (HP.out _).mono ?_; rintro e w1 ⟨rfl, hb1⟩) | (go_at_call 19; refine (iSeal_any b _ hbs).mono ?_; rintro e w2 ⟨rfl, hb2⟩))
    go_ret2
    exact ⟨rfl, hb1.trans (hb2.mono hb1.size)⟩
  · rw [M.uns_ok h h4 hq, M.errV_ok]
    unfold M.sealed at hq
    generalize hb : s.extract 0 (s.size - 4) = b at HP hq ⊢
    have hbs : b.size ≤ maxLen := by
      have := M.extract_size s 0 (s.size - 4) (by omega) (by omega)
      rw [hb] at this; unfold maxLen; omega
    clear hb
    go_enter Tryd.func15, Tryd.ntmps15
    go_wp2_with (first | (go_at_call 17; refine (HP.out _).mono ?_; rintro e w1 ⟨rfl, hb1⟩) | (go_at_call 19; refine (iSeal_any b _ hbs).mono ?_; rintro e w2 ⟨rfl, hb2⟩))
    go_ret2
    exact ⟨rfl, hb1.trans (hb2.mono hb1.size)⟩

theorem M.fin3 {w w2 : World} {o1 : Obj} {v0 v1 v2 : Value} (hb : Below (w.alloc o1).drew.heap.size (w.alloc o1).drew w2) :
    Below w.heap.size w (((w2.setCell ⟨w.heap.size, 0, none⟩ v0).setCell ⟨w.heap.size, 1, none⟩ v1).setCell ⟨w.heap.size, 2, none⟩ v2) := by
  refine ((Below.setCell ?_ (by exact Nat.le_refl _) _).setCell (by exact Nat.le_refl _) _).setCell (by exact Nat.le_refl _) _
  exact (((Below.refl w.heap.size w).alloc (Nat.le_refl _) o1).drew).trans (hb.mono (by simp))

set_option maxRecDepth 100000 in
set_option maxHeartbeats 1600000 in
theorem sUnseal_any (s : ByteArray) (w : World) (hs : s.size ≤ maxLen) :
    Calls Tryd.prog 8 #[.string s] w fun e w' => e = .returned (.agg #[.string (M.uns s).1, .int .i64 0, .int .i64 (M.uns s).2]) ∧ Below w.heap.size w w' := by
  unfold maxLen at hs
  by_cases h : 20000 < s.size
  · rw [M.uns_size h]
    go_enter Tryd.func8, Tryd.ntmps8
    go_wp2
    exact bodyPost_ret (v := .agg #[.string ⟨#[]⟩, .int .i64 0, .int .i64 2]) (by simp [results, Tryd.results8, go_sem]) rfl ⟨rfl, (Below.refl _ _).alloc (Nat.le_refl _) _⟩
  by_cases h4 : s.size < 4
  · rw [M.uns_short h h4]
    go_enter Tryd.func8, Tryd.ntmps8
    go_wp2
    exact bodyPost_ret (v := .agg #[.string ⟨#[]⟩, .int .i64 0, .int .i64 4]) (by simp [results, Tryd.results8, go_sem]) rfl ⟨rfl, (Below.refl _ _).alloc (Nat.le_refl _) _⟩
  have hC : ∀ W, Calls Tryd.prog 14 #[.int .i64 0, .string (s.extract 0 (s.size - 4))] W fun e w' => e = .returned (.int .i64 (M.crcMore 0 (s.extract 0 (s.size - 4)))) ∧ W = w' := fun W => by
    have hsz := M.extract_size s 0 (s.size - 4) (by omega) (by omega)
    rw [M.crcMore_yes (by omega)]; exact sCrc_in 0 _ W (by omega) (by omega)
  obtain ⟨h0, h9⟩ := M.crcMore_range (s.extract 0 (s.size - 4))
  have HC : Hid _ := hC
  clear hC
  have hsl : ∀ W, (Instr.slice 9 (.string s) (some (.int .i64 ((s.size : Int) - 4))) none none).run Tryd.prog W = .ok (.string (s.extract (s.size - 4) s.size)) W := fun W => by
    have e := run_slice_string_l (P := Tryd.prog) (w := W) (t := 9) (s := s) Tryd.underlying9 .i64 ((s.size : Int) - 4) (by omega) (by omega)
    rwa [show ((s.size : Int) - 4).toNat = s.size - 4 by omega] at e
  have hwr : IntKind.i64.wrap ((s.size : Int) - 4) = (s.size : Int) - 4 := by
    rw [IntKind.wrap_i64]; omega
  have hT := M.sealed_tail h h4
  cases hq : M.sealed s
  · rw [hq] at hT
    rw [M.uns_sum h h4 hq]
    rw [ByteArray.toList_mk] at hT
    clear hq
    go_enter Tryd.func8, Tryd.ntmps8
    go_wp2_with fail
    go_region_with (first | (go_at_call 14; refine (HC.out _).mono ?_; rintro e w1 ⟨rfl, rfl⟩) | (go_at_call 13; refine (sFour_any _ _ h0 h9).mono ?_; rintro e w2 ⟨rfl, hb2⟩; obtain ⟨hc1, hf1⟩ := M.bcell hb2; have hz1 : w.heap.size < w2.heap.size := (by have := hb2.size; simp at this; omega); have c0 : w2.cell? ⟨w.heap.size, 0, none⟩ = some (.string ⟨#[]⟩) := (by rw [hc1 _ _ (by simp)]; simp); have c1 : w2.cell? ⟨w.heap.size, 1, none⟩ = some (.int .i64 0) := (by rw [hc1 _ _ (by simp)]; simp); have c2 : w2.cell? ⟨w.heap.size, 2, none⟩ = some (.int .i64 0) := (by rw [hc1 _ _ (by simp)]; simp)))
    all_goals go_wp2
    all_goals exact bodyPost_ret (v := .agg #[.string ⟨#[]⟩, .int .i64 0, .int .i64 5]) (by simp [results, Tryd.results8, go_sem, c0, c1, c2]) rfl ⟨rfl, M.fin3 hb2⟩
  · rw [hq] at hT
    rw [M.uns_ok h h4 hq]
    rw [ByteArray.toList_mk] at hT
    clear hq
    go_enter Tryd.func8, Tryd.ntmps8
    go_wp2_with fail
    go_region_with (first | (go_at_call 14; refine (HC.out _).mono ?_; rintro e w1 ⟨rfl, rfl⟩) | (go_at_call 13; refine (sFour_any _ _ h0 h9).mono ?_; rintro e w2 ⟨rfl, hb2⟩; obtain ⟨hc1, hf1⟩ := M.bcell hb2; have hz1 : w.heap.size < w2.heap.size := (by have := hb2.size; simp at this; omega); have c0 : w2.cell? ⟨w.heap.size, 0, none⟩ = some (.string ⟨#[]⟩) := (by rw [hc1 _ _ (by simp)]; simp); have c1 : w2.cell? ⟨w.heap.size, 1, none⟩ = some (.int .i64 0) := (by rw [hc1 _ _ (by simp)]; simp); have c2 : w2.cell? ⟨w.heap.size, 2, none⟩ = some (.int .i64 0) := (by rw [hc1 _ _ (by simp)]; simp)))
    all_goals go_wp2
    all_goals exact bodyPost_ret (v := .agg #[.string (s.extract 0 (s.size - 4)), .int .i64 0, .int .i64 0]) (by simp [results, Tryd.results8, go_sem, c0, c1, c2]) rfl ⟨rfl, M.fin3 hb2⟩
set_option maxRecDepth 100000 in
set_option maxHeartbeats 800000 in
theorem iUnseal_any (s : ByteArray) (w : World) (hs : s.size ≤ maxLen) (hg : M.errT w) :
    Calls Tryd.prog 9 #[.string s] w fun e w' => e = .returned (.agg #[.string (M.uns s).1, .int .i64 0, .int .i64 (M.uns s).2]) ∧ Below w.heap.size w w' := by
  have hR := fun W => readSealed_any s W hs
  revert hR
  generalize (M.uns s).1 = A, (M.uns s).2 = c
  intro hR
  have HR : Hid _ := hR
  have HG : Hid (M.errT w) := hg
  clear hR hg
  go_enter Tryd.func9, Tryd.ntmps9
  go_wp2_with (first | (go_at_call 15; refine (HR.out _).mono ?_; rintro e w1 ⟨rfl, hb1⟩))
  have hsz1 := hb1.size
  simp at hsz1
  refine (codeOf_any c _ (M.errT_below (M.errT_alloc HG.out _) hb1)).mono ?_
  rintro e w2 ⟨rfl, hb2⟩
  obtain ⟨hc1, hf1⟩ := M.bcell hb1
  obtain ⟨hc2, hf2⟩ := M.bcell hb2
  have hsz2 := hb2.size
  have hz1 : w.heap.size < w1.heap.size := by omega
  have hz2 : w.heap.size < w2.heap.size := by omega
  have HB1 : Hid (Below (w.alloc (.cells #[.string ⟨#[]⟩, .int .i64 0, .int .i64 0] 23)).heap.size (w.alloc (.cells #[.string ⟨#[]⟩, .int .i64 0, .int .i64 0] 23)) w1) := hb1
  have HB2 : Hid (Below w1.heap.size w1 w2) := hb2
  clear hb1 hb2
  go_wp2
  refine bodyPost_ret (v := .agg #[.string A, .int .i64 0, .int .i64 c]) (by simp [results, Tryd.results9, go_sem, hc1, hc2, hz1]) rfl ⟨rfl, ?_⟩
  refine ((Below.setCell ?_ (by exact Nat.le_refl _) _).setCell (by exact Nat.le_refl _) _).setCell (by exact Nat.le_refl _) _
  refine Below.trans ?_ (HB2.out.mono (by omega))
  exact ((Below.refl w.heap.size w).alloc (Nat.le_refl _) _).trans (HB1.out.mono (by simp))

set_option maxRecDepth 100000 in
set_option maxHeartbeats 800000 in
theorem fnExactUnseal_walk (s : ByteArray) (w : World) (hs : s.size ≤ maxLen) (hg : M.errT w) :
    Calls Tryd.prog 4 #[.string s] w fun e w' => e = .returned (.bool true) ∧ Below w.heap.size w w' := by
  have hs' := hs
  unfold maxLen at hs'
  by_cases h : 1048576 < s.size
  · clear hg
    go_enter Tryd.func4, Tryd.ntmps4
    go_wp2
    go_ret
    exact ⟨rfl, Below.refl _ _⟩
  · have hS := fun W => sUnseal_any s W hs
    have hI := fun W hg => iUnseal_any s W hs hg
    revert hS hI
    generalize (M.uns s).1 = A, (M.uns s).2 = c
    intro hS hI
    have HS : Hid _ := hS
    have HI : Hid _ := hI
    have HG : Hid (M.errT w) := hg
    clear hS hI hg
    go_enter Tryd.func4, Tryd.ntmps4
    go_wp2_with (go_at_call 8; refine (HS.out _).mono ?_; rintro e w1 ⟨rfl, hb1⟩)
    have HB1 : Hid (Below w.heap.size w w1) := hb1
    have hg1 := M.errT_alloc (M.errT_below HG.out hb1) (.cells #[.string A, .int .i64 0, .int .i64 c] 23)
    refine (HI.out _ hg1).mono ?_
    rintro e w2 ⟨rfl, hb2⟩
    obtain ⟨hc, hf⟩ := M.bcell hb2
    have hz : w1.heap.size < w2.heap.size := by have := hb2.size; simp at this; omega
    have HB2 : Hid (Below (w1.alloc (.cells #[.string A, .int .i64 0, .int .i64 c] 23)).heap.size (w1.alloc (.cells #[.string A, .int .i64 0, .int .i64 c] 23)) w2) := hb2
    clear hb1 hb2 hg1
    go_wp2_with (go_at_call 7; refine (eqTextOut_same A 0 c _).mono ?_; rintro e w3 ⟨rfl, hb3⟩)
    go_ret
    have hs1 := HB1.out.size
    have hs2 := HB2.out.size
    simp at hs2
    refine ⟨rfl, ?_⟩
    refine Below.trans ?_ (hb3.mono (by simp; omega))
    refine Below.alloc ?_ (by omega) _
    refine Below.trans ?_ (HB2.out.mono (by simp; omega))
    exact HB1.out.alloc hs1 _
end Go.Proofs.YtpigodeeconocafDoor
