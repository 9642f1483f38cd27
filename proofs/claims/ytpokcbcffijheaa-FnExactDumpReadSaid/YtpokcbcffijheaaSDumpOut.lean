/-
  What DumpRead of the specification does; and the laws' helpers on its answer.
-/
import Derived.Test.YtpokcbcffijheaaSDRead
import Derived.Test.YtpokcbcffijheaaPart5
namespace Go.Proofs.Ytpokcbcffijheaa
open Go.RowKit

theorem M.bk10 {W : World} {H : Nat} {v0 v1 v2 v3 v4 v5 v6 v7 v8 v9 : Value} {T : TypeId} (h : W.heap[H]? = some (.cells #[v0, v1, v2, v3, v4, v5, v6, v7, v8, v9] T (0, 0))) : W.cell? ⟨H, 0, none⟩ = some v0 ∧ W.cell? ⟨H, 1, none⟩ = some v1 ∧ W.cell? ⟨H, 2, none⟩ = some v2 ∧ W.cell? ⟨H, 3, none⟩ = some v3 ∧ W.cell? ⟨H, 4, none⟩ = some v4 ∧ W.cell? ⟨H, 5, none⟩ = some v5 ∧ W.cell? ⟨H, 6, none⟩ = some v6 ∧ W.cell? ⟨H, 7, none⟩ = some v7 ∧ W.cell? ⟨H, 8, none⟩ = some v8 ∧ W.cell? ⟨H, 9, none⟩ = some v9 :=
  ⟨M.bk_cell h 0 _ rfl, M.bk_cell h 1 _ rfl, M.bk_cell h 2 _ rfl, M.bk_cell h 3 _ rfl, M.bk_cell h 4 _ rfl, M.bk_cell h 5 _ rfl, M.bk_cell h 6 _ rfl, M.bk_cell h 7 _ rfl, M.bk_cell h 8 _ rfl, M.bk_cell h 9 _ rfl⟩
theorem M.dread_rok {t : ByteArray} (hl : ¬ 20000 < t.size) : M.dread t = if M.rok t = true then ((M.rdump t).1, 0) else (M.dzero, 3) := by
  unfold M.dread
  rw [if_neg hl]
  have hi := M.rdump_iff t
  have hr : M.rok t = true ↔ ((0 ≤ (M.rhead t).2.1 ∧ (M.rhead t).2.1 ≤ 8) ∧ (M.rdump t).2 = some t.size ∧ M.dumpR (M.rdump t).1 = true) := by
    unfold M.rok
    simp only [Bool.and_eq_true, decide_eq_true_eq, and_assoc]
  by_cases hy : M.rok t = true
  · rw [if_pos hy]
    obtain ⟨h1, h2⟩ := hi.2 (hr.1 hy)
    rw [if_neg (by rintro (h | h); exact h1 h; exact h h2)]
  · rw [if_neg hy, if_pos]
    by_cases h1 : (M.rdump t).2 = none
    · exact .inl h1
    · refine .inr fun h2 => hy (hr.2 (hi.1 ⟨h1, h2⟩))

set_option maxRecDepth 100000 in
set_option maxHeartbeats 3200000 in
theorem sDumpRead_any (w : World) (t : ByteArray) (hz : t.size ≤ maxLen) :
    Calls Try.prog 15 #[.string t] w fun e w' => ∃ v, e = .returned (M.doval (M.dread t).1 v (M.dread t).2) ∧ M.OwnPt w' w.heap.size v (M.dread t).1.ps ∧ Below w.heap.size w w' := by
  have hz5 : t.size ≤ 9223372036854775807 := by unfold maxLen at hz; omega
  by_cases hl : 20000 < t.size
  · have HE : Hid (M.dread t = (M.dzero, 2)) := by show _ = _; unfold M.dread; rw [if_pos hl]
    have d1 : decide (20000 < (t.size : Int)) = true := decide_eq_true (by omega)
    rw [HE.out]
    unfold M.doval M.dzero
    simp only
    clear HE
    go_enter Try.func15, Try.ntmps15
    go_wp2
    refine bodyPost_ret (v := .agg #[.int .i64 0, .string ⟨#[]⟩, .int .i64 0, .int .i64 0, .int .i64 0, .int .i64 0, .int .i64 0, .int .i64 0, .slice none 0 0, .int .i64 2]) (by simp [results, Try.results15, go_sem]) rfl ⟨_, rfl, M.OwnPt.nil _ _, ?_⟩
    exact (Below.refl _ _).alloc (Nat.le_refl _) _
  have d1 : decide (20000 < (t.size : Int)) = false := decide_eq_false (by omega)
  have HE := M.hl (M.dread_rok hl)
  obtain ⟨W0, hW0⟩ : ∃ W0, W0 = w.alloc (.cells #[.int .i64 0, .string ⟨#[]⟩, .int .i64 0, .int .i64 0, .int .i64 0, .int .i64 0, .int .i64 0, .int .i64 0, .slice none 0 0, .int .i64 0] 30) := ⟨_, rfl⟩
  have V0 : Hid (W0.heap[w.heap.size]? = some (.cells #[.int .i64 0, .string ⟨#[]⟩, .int .i64 0, .int .i64 0, .int .i64 0, .int .i64 0, .int .i64 0, .int .i64 0, .slice none 0 0, .int .i64 0] 30 (0, 0))) := by rw [hW0]; exact heap_alloc_new _ _
  have B0 : Hid (Below w.heap.size w W0) := by rw [hW0]; exact (Below.refl _ _).alloc (Nat.le_refl _) _
  have Z0 : Hid (W0.heap.size = w.heap.size + 1) := by rw [hW0]; show _ = _; simp
  have CD := M.hl (sL08Read_any W0 t (by omega))
  have HW0 := M.hl hW0
  obtain ⟨r, hr⟩ : ∃ r, M.rok t = r := ⟨_, rfl⟩
  rw [hr] at CD HE
  clear hW0 hz hr
  go_enter Try.func15, Try.ntmps15
  go_wp2_with fail
  rw [← HW0.out]
  refine CD.out.mono ?_
  rintro e w1 ⟨d, v, rfl, ⟨va, vn, vc, rfl⟩, hO, hb⟩
  have HO := M.hl hO
  have V1 := M.hl (M.keepO V0.out hb)
  have B1 := M.hl (M.sl B0.out hb)
  have Z1 := M.hl hb.size
  have V1A : Hid (∀ o, (w1.alloc o).heap[w.heap.size]? = some (.cells #[.int .i64 0, .string ⟨#[]⟩, .int .i64 0, .int .i64 0, .int .i64 0, .int .i64 0, .int .i64 0, .int .i64 0, .slice none 0 0, .int .i64 0] 30 (0, 0))) := fun o => (heap_alloc_old _ _ (Array.getElem?_eq_some_iff.1 V1.out).1).trans V1.out
  have KB : Hid (∀ {W : World} (j : Nat) (u : Value), Below w.heap.size w W → Below w.heap.size w (W.setCell ⟨w.heap.size, j, none⟩ u)) := fun j u hB => hB.setCell (Nat.le_refl _) u
  have B1A : Hid (∀ o, Below w.heap.size w (w1.alloc o)) := fun o => B1.out.alloc B1.out.size _
  clear hO hb CD V0 B0
  obtain ⟨x1, hs, x2, x3, x4, x5, x6, x7, ps⟩ := d
  unfold M.dval
  simp only
  have fr : ∀ o j, (w1.alloc o).frozen? ⟨w.heap.size, j, none⟩ = false := fun o j => M.bk_free (V1A.out o) j
  have r0 : ∀ o, (w1.alloc o).cell? ⟨w.heap.size, 0, none⟩ = some (.int .i64 0) := fun o => M.bk_cell (V1A.out o) 0 _ rfl
  have r1 : ∀ o, (w1.alloc o).cell? ⟨w.heap.size, 1, none⟩ = some (.string ⟨#[]⟩) := fun o => M.bk_cell (V1A.out o) 1 _ rfl
  have r2 : ∀ o, (w1.alloc o).cell? ⟨w.heap.size, 2, none⟩ = some (.int .i64 0) := fun o => M.bk_cell (V1A.out o) 2 _ rfl
  have r3 : ∀ o, (w1.alloc o).cell? ⟨w.heap.size, 3, none⟩ = some (.int .i64 0) := fun o => M.bk_cell (V1A.out o) 3 _ rfl
  have r4 : ∀ o, (w1.alloc o).cell? ⟨w.heap.size, 4, none⟩ = some (.int .i64 0) := fun o => M.bk_cell (V1A.out o) 4 _ rfl
  have r5 : ∀ o, (w1.alloc o).cell? ⟨w.heap.size, 5, none⟩ = some (.int .i64 0) := fun o => M.bk_cell (V1A.out o) 5 _ rfl
  have r6 : ∀ o, (w1.alloc o).cell? ⟨w.heap.size, 6, none⟩ = some (.int .i64 0) := fun o => M.bk_cell (V1A.out o) 6 _ rfl
  have r7 : ∀ o, (w1.alloc o).cell? ⟨w.heap.size, 7, none⟩ = some (.int .i64 0) := fun o => M.bk_cell (V1A.out o) 7 _ rfl
  have r8 : ∀ o, (w1.alloc o).cell? ⟨w.heap.size, 8, none⟩ = some (.slice none 0 0) := fun o => M.bk_cell (V1A.out o) 8 _ rfl
  have r9 : ∀ o, (w1.alloc o).cell? ⟨w.heap.size, 9, none⟩ = some (.int .i64 0) := fun o => M.bk_cell (V1A.out o) 9 _ rfl
  cases r with
  | false =>
    have HT : Hid (M.dread t = (M.dzero, 3)) := HE.out
    go_wp2
    refine bodyPost_ret (v := .agg #[.int .i64 0, .string ⟨#[]⟩, .int .i64 0, .int .i64 0, .int .i64 0, .int .i64 0, .int .i64 0, .int .i64 0, .slice none 0 0, .int .i64 3]) (by simp [results, Try.results15, go_sem, r0, r1, r2, r3, r4, r5, r6, r7, r8, r9]) rfl ⟨.slice none 0 0, ?_, ?_, ?_⟩
    · rw [HT.out]; rfl
    · rw [HT.out]; exact M.OwnPt.nil _ _
    · iterate 10 refine KB.out _ _ ?_
      exact B1A.out _
  | true =>
    obtain ⟨hd, ho⟩ := HO.out rfl
    have HT : Hid (M.dread t = (⟨x1, hs, x2, x3, x4, x5, x6, x7, ps⟩, 0)) := by show _ = _; rw [HE.out, if_pos rfl, hd]
    obtain ⟨va', vc', hv⟩ := ho.len
    cases hv
    have O1 := M.hl ho
    have O1A : Hid (∀ o, M.OwnPt (w1.alloc o) W0.heap.size (.slice va ps.length vc) ps) := fun o => O1.out.below ((Below.refl _ _).alloc (Nat.le_refl _) _)
    clear hd ho HO
    go_wp2
    refine bodyPost_ret (v := .agg #[.int .i64 x1, .string hs, .int .i64 x2, .int .i64 x3, .int .i64 x4, .int .i64 x5, .int .i64 x6, .int .i64 x7, .slice va ps.length vc, .int .i64 0]) (by simp [results, Try.results15, go_sem, r0, r1, r2, r3, r4, r5, r6, r7, r8, r9]) rfl ⟨.slice va ps.length vc, ?_, ?_, ?_⟩
    · rw [HT.out]; rfl
    · rw [HT.out]
      have key : ∀ {W : World} (j : Nat) (u : Value), M.OwnPt W W0.heap.size (.slice va ps.length vc) ps → M.OwnPt (W.setCell ⟨w.heap.size, j, none⟩ u) W0.heap.size (.slice va ps.length vc) ps := fun j u hO => hO.setAt (by intro g hg e; have := (World.ownsRow.lt O1.out g hg).1; have := Z0.out; omega) j u
      refine M.OwnPt.down (b := W0.heap.size) ?_ (by have := Z0.out; omega)
      iterate 10 refine key _ _ ?_
      exact O1A.out _
    · iterate 10 refine KB.out _ _ ?_
      exact B1A.out _

set_option maxRecDepth 100000 in
set_option maxHeartbeats 1600000 in
theorem eqDumpOut_same (w : World) (x1 : Int) (hs : ByteArray) (x2 x3 x4 x5 x6 x7 : Int) (a a' : Option Addr) (n c n' c' : Nat) (ps : List M.PartD) (z : Int) (h : M.Pts w a n c ps) (h' : M.Pts w a' n' c' ps) :
    Calls Try.prog 20 #[.agg #[.int .i64 x1, .string hs, .int .i64 x2, .int .i64 x3, .int .i64 x4, .int .i64 x5, .int .i64 x6, .int .i64 x7, .slice a n c, .int .i64 z], .agg #[.int .i64 x1, .string hs, .int .i64 x2, .int .i64 x3, .int .i64 x4, .int .i64 x5, .int .i64 x6, .int .i64 x7, .slice a' n' c', .int .i64 z]] w fun e w' => e = .returned (.bool true) ∧ Below w.heap.size w w' := by
  obtain ⟨W2, hW2⟩ : ∃ W2, W2 = (w.alloc (.cells #[.int .i64 x1, .string hs, .int .i64 x2, .int .i64 x3, .int .i64 x4, .int .i64 x5, .int .i64 x6, .int .i64 x7, .slice a n c, .int .i64 z] 30)).alloc (.cells #[.int .i64 x1, .string hs, .int .i64 x2, .int .i64 x3, .int .i64 x4, .int .i64 x5, .int .i64 x6, .int .i64 x7, .slice a' n' c', .int .i64 z] 30) := ⟨_, rfl⟩
  obtain ⟨t0, t1⟩ := M.thr2 w (.cells #[.int .i64 x1, .string hs, .int .i64 x2, .int .i64 x3, .int .i64 x4, .int .i64 x5, .int .i64 x6, .int .i64 x7, .slice a n c, .int .i64 z] 30) (.cells #[.int .i64 x1, .string hs, .int .i64 x2, .int .i64 x3, .int .i64 x4, .int .i64 x5, .int .i64 x6, .int .i64 x7, .slice a' n' c', .int .i64 z] 30)
  rw [← hW2] at t0 t1
  have T0 := M.hl t0
  have T1 := M.hl t1
  have B2 : Hid (Below w.heap.size w W2) := by rw [hW2]; exact ((Below.refl _ _).alloc (Nat.le_refl _) _).alloc (by simp) _
  have CS := M.hl (eqDump_same W2 x1 hs x2 x3 x4 x5 x6 x7 a a' n c n' c' ps (h.below B2.out) (h'.below B2.out))
  have HW2 := M.hl hW2
  clear h h' t0 t1 hW2
  go_enter Try.func20, Try.ntmps20
  go_wp2_with fail
  rw [← HW2.out]
  refine CS.out.mono ?_
  rintro e w1 ⟨rfl, hb⟩
  have c9 := M.bk_cell (M.keepO T0.out hb) 9 (.int .i64 z) rfl
  have d9 := M.bk_cell (M.keepO T1.out hb) 9 (.int .i64 z) rfl
  have B1 := M.hl (M.sl B2.out hb)
  clear hb
  go_wp2
  go_ret
  exact ⟨rfl, B1.out⟩

set_option maxRecDepth 100000 in
set_option maxHeartbeats 1600000 in
theorem markDump_own (w : World) (base : Nat) (x1 : Int) (hs : ByteArray) (x2 x3 x4 x5 x6 x7 : Int) (a : Option Addr) (c : Nat) (ps : List M.PartD) (k : Nat) (h : M.OwnPt w base (.slice a ps.length c) ps) (hl : ps.length ≤ 1048576) (hk1 : 1 ≤ k) (hk : k ≤ 40000000) :
    Calls Try.prog 57 #[.agg #[.int .i64 x1, .string hs, .int .i64 x2, .int .i64 x3, .int .i64 x4, .int .i64 x5, .int .i64 x6, .int .i64 x7, .slice a ps.length c], .int .i64 (k : Int)] w fun e w' => e = .returned (.int .i64 ((k + 4 * ps.length : Nat) : Int)) ∧ M.OwnPt w' base (.slice a ps.length c) (M.ptmarks ps.length k) ∧ w.grownBy w' (Value.slice a ps.length c).ownBlock := by
  have CS : Hid (∀ o, Calls Try.prog 62 #[.slice a ps.length c, .int .i64 (k : Int)] (w.alloc o) fun e w' => e = .returned (.int .i64 ((k + 4 * ps.length : Nat) : Int)) ∧ M.OwnPt w' base (.slice a ps.length c) (M.ptmarks ps.length k) ∧ (w.alloc o).grownBy w' (Value.slice a ps.length c).ownBlock) := fun o => markPartS_own (w.alloc o) base _ ps k (h.below ((Below.refl _ _).alloc (Nat.le_refl _) _)) hl hk1 hk
  clear h
  generalize k + 4 * ps.length = K at CS ⊢
  generalize M.ptmarks ps.length k = ms at CS ⊢
  generalize (Value.slice a ps.length c).ownBlock = row at CS ⊢
  generalize ps.length = n at CS ⊢
  go_enter Try.func57, Try.ntmps57
  go_wp2_with fail
  refine (CS.out _).mono ?_
  rintro e w1 ⟨rfl, hO, hg⟩
  have O1 := M.hl hO
  have G1 := M.hl (((World.grownBy_alloc w _ none).but _).trans hg)
  clear hO hg CS
  go_wp2
  go_ret
  exact ⟨rfl, O1.out, G1.out⟩

set_option maxRecDepth 100000 in
set_option maxHeartbeats 1600000 in
theorem markDumpOut_own (w : World) (base : Nat) (x1 : Int) (hs : ByteArray) (x2 x3 x4 x5 x6 x7 : Int) (a : Option Addr) (c : Nat) (ps : List M.PartD) (z : Int) (k : Nat) (h : M.OwnPt w base (.slice a ps.length c) ps) (hl : ps.length ≤ 1048576) (hk1 : 1 ≤ k) (hk : k ≤ 40000000) :
    Calls Try.prog 21 #[.agg #[.int .i64 x1, .string hs, .int .i64 x2, .int .i64 x3, .int .i64 x4, .int .i64 x5, .int .i64 x6, .int .i64 x7, .slice a ps.length c, .int .i64 z], .int .i64 (k : Int)] w fun e w' => e = .returned (.int .i64 ((k + 4 * ps.length : Nat) : Int)) ∧ M.OwnPt w' base (.slice a ps.length c) (M.ptmarks ps.length k) ∧ w.grownBy w' (Value.slice a ps.length c).ownBlock := by
  have CS : Hid (∀ o, Calls Try.prog 57 #[.agg #[.int .i64 x1, .string hs, .int .i64 x2, .int .i64 x3, .int .i64 x4, .int .i64 x5, .int .i64 x6, .int .i64 x7, .slice a ps.length c], .int .i64 (k : Int)] (w.alloc o) fun e w' => e = .returned (.int .i64 ((k + 4 * ps.length : Nat) : Int)) ∧ M.OwnPt w' base (.slice a ps.length c) (M.ptmarks ps.length k) ∧ (w.alloc o).grownBy w' (Value.slice a ps.length c).ownBlock) := fun o => markDump_own (w.alloc o) base x1 hs x2 x3 x4 x5 x6 x7 a c ps k (h.below ((Below.refl _ _).alloc (Nat.le_refl _) _)) hl hk1 hk
  clear h
  generalize k + 4 * ps.length = K at CS ⊢
  generalize M.ptmarks ps.length k = ms at CS ⊢
  generalize (Value.slice a ps.length c).ownBlock = row at CS ⊢
  generalize ps.length = n at CS ⊢
  go_enter Try.func21, Try.ntmps21
  go_wp2_with fail
  refine (CS.out _).mono ?_
  rintro e w1 ⟨rfl, hO, hg⟩
  have O1 := M.hl hO
  have G1 := M.hl (((World.grownBy_alloc w _ none).but _).trans hg)
  clear hO hg CS
  go_wp2
  go_ret
  exact ⟨rfl, O1.out, G1.out⟩

set_option maxRecDepth 100000 in
set_option maxHeartbeats 1600000 in
theorem heldDump_own (w : World) (base : Nat) (x1 : Int) (hs : ByteArray) (x2 x3 x4 x5 x6 x7 : Int) (a : Option Addr) (n c : Nat) (k : Nat) (h : M.OwnPt w base (.slice a n c) (M.ptmarks n k)) (hl : n ≤ 1048576) (hk1 : 1 ≤ k) (hk : k ≤ 40000000) :
    Calls Try.prog 58 #[.agg #[.int .i64 x1, .string hs, .int .i64 x2, .int .i64 x3, .int .i64 x4, .int .i64 x5, .int .i64 x6, .int .i64 x7, .slice a n c], .int .i64 (k : Int)] w fun e w' => e = .returned (.int .i64 ((k + 4 * n : Nat) : Int)) ∧ Below w.heap.size w w' := by
  have CS : Hid (∀ o, Calls Try.prog 80 #[.slice a n c, .int .i64 (k : Int)] (w.alloc o) fun e w' => e = .returned (.int .i64 ((k + 4 * n : Nat) : Int)) ∧ w.alloc o = w') := fun o => heldPartS_own (w.alloc o) base _ n k (h.below ((Below.refl _ _).alloc (Nat.le_refl _) _)) hl hk1 hk
  have HB : Hid (∀ o, Below w.heap.size w (w.alloc o)) := fun o => (Below.refl _ _).alloc (Nat.le_refl _) _
  have dk : decide (((k + 4 * n : Nat) : Int) < 0) = false := decide_eq_false (by omega)
  clear h
  generalize k + 4 * n = K at CS dk ⊢
  go_enter Try.func58, Try.ntmps58
  go_wp2_with fail
  refine (CS.out _).mono ?_
  rintro e w1 ⟨rfl, rfl⟩
  go_wp2
  go_ret
  exact ⟨rfl, HB.out _⟩

set_option maxRecDepth 100000 in
set_option maxHeartbeats 1600000 in
theorem heldDumpOut_own (w : World) (base : Nat) (x1 : Int) (hs : ByteArray) (x2 x3 x4 x5 x6 x7 : Int) (a : Option Addr) (n c : Nat) (z : Int) (k : Nat) (h : M.OwnPt w base (.slice a n c) (M.ptmarks n k)) (hl : n ≤ 1048576) (hk1 : 1 ≤ k) (hk : k ≤ 40000000) :
    Calls Try.prog 22 #[.agg #[.int .i64 x1, .string hs, .int .i64 x2, .int .i64 x3, .int .i64 x4, .int .i64 x5, .int .i64 x6, .int .i64 x7, .slice a n c, .int .i64 z], .int .i64 (k : Int)] w fun e w' => e = .returned (.int .i64 ((k + 4 * n : Nat) : Int)) ∧ Below w.heap.size w w' := by
  have CS : Hid (∀ o, Calls Try.prog 58 #[.agg #[.int .i64 x1, .string hs, .int .i64 x2, .int .i64 x3, .int .i64 x4, .int .i64 x5, .int .i64 x6, .int .i64 x7, .slice a n c], .int .i64 (k : Int)] (w.alloc o) fun e w' => e = .returned (.int .i64 ((k + 4 * n : Nat) : Int)) ∧ Below (w.alloc o).heap.size (w.alloc o) w') := fun o => heldDump_own (w.alloc o) base x1 hs x2 x3 x4 x5 x6 x7 a n c k (h.below ((Below.refl _ _).alloc (Nat.le_refl _) _)) hl hk1 hk
  have HB : Hid (∀ o, Below w.heap.size w (w.alloc o)) := fun o => (Below.refl _ _).alloc (Nat.le_refl _) _
  have dk : decide (((k + 4 * n : Nat) : Int) < 0) = false := decide_eq_false (by omega)
  clear h
  generalize k + 4 * n = K at CS dk ⊢
  go_enter Try.func22, Try.ntmps22
  go_wp2_with fail
  refine (CS.out _).mono ?_
  rintro e w1 ⟨rfl, hb⟩
  have B1 := M.hl (M.sl (HB.out _) hb)
  clear hb
  go_wp2
  go_ret
  exact ⟨rfl, B1.out⟩

end Go.Proofs.Ytpokcbcffijheaa
