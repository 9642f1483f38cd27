/-
  What DumpRead of the program does.
-/
import Derived.Test.YtpokcbcffijheaaIDRDump
import Derived.Test.YtpokcbcffijheaaIDumpB
namespace Go.Proofs.Ytpokcbcffijheaa
open Go.RowKit

/-- A dump and a code as a value. -/
def M.doval (d : M.DumpD) (v : Value) (z : Int) : Value := .agg #[.int .i64 d.id, .string d.host, .int .i64 d.run, .int .i64 d.lev, .int .i64 d.base, .int .i64 d.day, .int .i64 d.many, .int .i64 d.crc, v, .int .i64 z]
def M.dzero : M.DumpD := ⟨0, ⟨#[]⟩, 0, 0, 0, 0, 0, 0, []⟩
/-- What DumpRead tells: a dump and a code. -/
def M.dread (t : ByteArray) : M.DumpD × Int := if 20000 < t.size then (M.dzero, 2) else if (M.rdump t).2 = none ∨ M.dumpT (M.rdump t).1 ≠ t then (M.dzero, 3) else ((M.rdump t).1, 0)
theorem M.rtxt_size (t : ByteArray) (st : Option Nat) : (M.rtxt t st).1.size ≤ 20000 := by
  cases st with
  | none => exact Nat.zero_le _
  | some a =>
    unfold M.rtxt
    by_cases hc : (M.txt3 t (a : Int)).2.2 = 0
    · have := (M.txt_canon hc).2.2.2.1
      simp only [hc, if_true]
      exact this
    · simp only [hc, if_false]
      exact Nat.zero_le _
theorem M.rdump_host (t : ByteArray) : (M.rdump t).1.host.size ≤ 20000 := by
  rw [M.rdump_eq]
  exact M.rtxt_size _ _
theorem M.boxUp {H : Nat} {W W' : World} {b : Nat} {o : Obj} (h : W.heap[b]? = some o) (hm : M.Mid H (H + 1) W W') (hb : b < H) : W'.heap[b]? = some o := (hm.block b (Array.getElem?_eq_some_iff.1 h).1 (.inl hb)).trans h

set_option maxRecDepth 100000 in
set_option maxHeartbeats 3200000 in
theorem iDumpRead_any (w : World) (t : ByteArray) (hz : t.size ≤ maxLen) :
    Calls Try.prog 12 #[.string t] w fun e w' => ∃ v, e = .returned (M.doval (M.dread t).1 v (M.dread t).2) ∧ M.OwnPt w' w.heap.size v (M.dread t).1.ps ∧ Below w.heap.size w w' := by
  have hz5 : t.size ≤ 9223372036854775807 := by unfold maxLen at hz; omega
  by_cases hl : 20000 < t.size
  · have HE : Hid (M.dread t = (M.dzero, 2)) := by show _ = _; unfold M.dread; rw [if_pos hl]
    have d1 : decide (20000 < (t.size : Int)) = true := decide_eq_true (by omega)
    rw [HE.out]
    unfold M.doval M.dzero
    simp only
    clear HE
    go_enter Try.func12, Try.ntmps12
    go_wp2
    refine bodyPost_ret (v := .agg #[.int .i64 0, .string ⟨#[]⟩, .int .i64 0, .int .i64 0, .int .i64 0, .int .i64 0, .int .i64 0, .int .i64 0, .slice none 0 0, .int .i64 2]) (by simp [results, Try.results12, go_sem]) rfl ⟨_, rfl, M.OwnPt.nil _ _, ?_⟩
    exact (Below.refl _ _).alloc (Nat.le_refl _) _
  have d1 : decide (20000 < (t.size : Int)) = false := decide_eq_false (by omega)
  obtain ⟨W0, hW0⟩ : ∃ W0, W0 = (w.alloc (.cells #[.int .i64 0, .string ⟨#[]⟩, .int .i64 0, .int .i64 0, .int .i64 0, .int .i64 0, .int .i64 0, .int .i64 0, .slice none 0 0, .int .i64 0] 30)).alloc (.cells #[.string t, .int .i64 0, .nilIface] 70) := ⟨_, rfl⟩
  obtain ⟨t0, t1⟩ := M.thr2 w (.cells #[.int .i64 0, .string ⟨#[]⟩, .int .i64 0, .int .i64 0, .int .i64 0, .int .i64 0, .int .i64 0, .int .i64 0, .slice none 0 0, .int .i64 0] 30) (.cells #[.string t, .int .i64 0, .nilIface] 70)
  rw [← hW0] at t0 t1
  have V0 := M.hl t0
  have R0 : Hid (M.RdB W0 (w.heap.size + 1) t (some 0)) := t1
  have B0 : Hid (Below w.heap.size w W0) := by rw [hW0]; exact ((Below.refl _ _).alloc (Nat.le_refl _) _).alloc (by simp) _
  have Z0 : Hid (w.heap.size + 1 + 1 = W0.heap.size) := by rw [hW0]; show _ = _; simp
  have HW0 := M.hl hW0
  have CD := M.hl (iDRDump_any W0 (w.heap.size + 1) t (by omega) R0.out)
  have HH := M.hl (M.rdump_host t)
  have HE : Hid (M.dread t = if (M.rdump t).2 = none ∨ M.dumpT (M.rdump t).1 ≠ t then (M.dzero, 3) else ((M.rdump t).1, 0)) := by show _ = _; unfold M.dread; rw [if_neg hl]
  obtain ⟨d, st, hd⟩ : ∃ d st, M.rdump t = (d, st) := ⟨_, _, rfl⟩
  rw [hd] at CD HH HE
  simp only at CD HH HE
  obtain ⟨D, z, hDz⟩ : ∃ D z, M.dread t = (D, z) := ⟨_, _, rfl⟩
  rw [hDz] at HE
  rw [hDz]
  obtain ⟨x1, hs, x2, x3, x4, x5, x6, x7, ps⟩ := d
  unfold M.dval at CD
  simp only at CD HH
  clear t0 t1 hW0 hd hDz hz
  go_enter Try.func12, Try.ntmps12
  go_wp2_with fail
  rw [← HW0.out]
  refine CD.out.mono ?_
  rintro e w1 ⟨v, rfl, hO, hR, hm⟩
  obtain ⟨va, vc, rfl⟩ := hO.len
  have HN : Hid (M.Pts w1 va ps.length vc ps) := by obtain ⟨a', c', e, hp⟩ := hO.pts; cases e; exact hp
  have O1 := M.hl hO
  have R1 := M.hl hR
  have V1 := M.hl (M.boxUp V0.out hm (Nat.lt_succ_self _))
  have B1 : Hid (Below w.heap.size w w1) := B0.out.trans (hm.below (by have := Z0.out; omega) |>.mono (Nat.le_succ _))
  have Z1 : Hid (w.heap.size + 1 + 1 ≤ w1.heap.size) := by have := Z0.out; have := hm.size; show _ ≤ _; omega
  clear hO hR hm CD V0 R0 B0
  obtain ⟨n, hn⟩ : ∃ n, n = ps.length := ⟨_, rfl⟩
  have HNN := M.hl hn
  rw [← hn] at O1 HN
  rw [← hn]
  clear hn
  have V1A : Hid (∀ o, (w1.alloc o).heap[w.heap.size]? = some (.cells #[.int .i64 0, .string ⟨#[]⟩, .int .i64 0, .int .i64 0, .int .i64 0, .int .i64 0, .int .i64 0, .int .i64 0, .slice none 0 0, .int .i64 0] 30 (0, 0))) := fun o => (heap_alloc_old _ _ (by have := Z1.out; omega)).trans V1.out
  have R1A : Hid (∀ o, M.RdB (w1.alloc o) (w.heap.size + 1) t st) := fun o => M.rdB_blk R1.out (heap_alloc_old _ _ (M.rdB_lt R1.out))
  have B1A : Hid (∀ o, Below w.heap.size w (w1.alloc o)) := fun o => B1.out.alloc B1.out.size _
  obtain ⟨W2, hW2⟩ : ∃ W2, W2 = w1.alloc (.cells #[.int .i64 x1, .string hs, .int .i64 x2, .int .i64 x3, .int .i64 x4, .int .i64 x5, .int .i64 x6, .int .i64 x7, .slice va n vc] 25) := ⟨_, rfl⟩
  have A2 : Below w1.heap.size w1 W2 := by rw [hW2]; exact (Below.refl _ _).alloc (Nat.le_refl _) _
  have V2 := M.hl (M.keepO V1.out A2)
  have R2 := M.hl (M.rdB_blk R1.out (A2.block _ (M.rdB_lt R1.out)))
  have O2 := M.hl (O1.out.below A2)
  have P2 := M.hl (HN.out.below A2)
  have B2 := M.hl (M.sl B1.out A2)
  have D2 : Hid (W2.heap[w1.heap.size]? = some (.cells #[.int .i64 x1, .string hs, .int .i64 x2, .int .i64 x3, .int .i64 x4, .int .i64 x5, .int .i64 x6, .int .i64 x7, .slice va n vc] 25 (0, 0))) := by rw [hW2]; exact heap_alloc_new _ _
  have HW2 := M.hl hW2
  clear hW2 A2 V1 R1 O1 HN B1
  obtain ⟨q0, q1, q2, q3, q4, q5, q6, q7, q8⟩ := M.bk9 D2.out
  have KB : Hid (∀ {W : World} (j : Nat) (u : Value), Below w.heap.size w W → Below w.heap.size w (W.setCell ⟨w.heap.size, j, none⟩ u)) := fun j u hB => hB.setCell (Nat.le_refl _) u
  cases st with
  | none =>
    have e2 : ∃ c : Nat, ∀ o, (w1.alloc o).cell? ⟨w.heap.size + 1, 2, none⟩ = some (.iface 121 (.agg #[.int .i64 (c : Int)])) := by
      obtain ⟨y, c, hc, hh⟩ := R1A.out (.cells #[] 5)
      refine ⟨c, fun o => ?_⟩
      rw [M.errV_no hc] at hh
      have h1 := (heap_alloc_old w1 (.cells #[] 5) (r := w.heap.size + 1) (by have := Z1.out; omega)).symm.trans hh
      exact M.bk_cell ((heap_alloc_old w1 o (by have := Z1.out; omega)).trans h1) 2 _ rfl
    obtain ⟨c, e2⟩ := e2
    have hT : (D, z) = (M.dzero, 3) := by rw [HE.out, if_pos (.inl rfl)]
    have HT := M.hl hT
    have r0 : ∀ o, (w1.alloc o).cell? ⟨w.heap.size, 0, none⟩ = some (.int .i64 0) := fun o => M.bk_cell (V1A.out o) 0 _ rfl
    have r1 : ∀ o, (w1.alloc o).cell? ⟨w.heap.size, 1, none⟩ = some (.string ⟨#[]⟩) := fun o => M.bk_cell (V1A.out o) 1 _ rfl
    have r2 : ∀ o, (w1.alloc o).cell? ⟨w.heap.size, 2, none⟩ = some (.int .i64 0) := fun o => M.bk_cell (V1A.out o) 2 _ rfl
    have r3 : ∀ o, (w1.alloc o).cell? ⟨w.heap.size, 3, none⟩ = some (.int .i64 0) := fun o => M.bk_cell (V1A.out o) 3 _ rfl
    have r4 : ∀ o, (w1.alloc o).cell? ⟨w.heap.size, 4, none⟩ = some (.int .i64 0) := fun o => M.bk_cell (V1A.out o) 4 _ rfl
    have r5 : ∀ o, (w1.alloc o).cell? ⟨w.heap.size, 5, none⟩ = some (.int .i64 0) := fun o => M.bk_cell (V1A.out o) 5 _ rfl
    have r6 : ∀ o, (w1.alloc o).cell? ⟨w.heap.size, 6, none⟩ = some (.int .i64 0) := fun o => M.bk_cell (V1A.out o) 6 _ rfl
    have r7 : ∀ o, (w1.alloc o).cell? ⟨w.heap.size, 7, none⟩ = some (.int .i64 0) := fun o => M.bk_cell (V1A.out o) 7 _ rfl
    have r8 : ∀ o, (w1.alloc o).cell? ⟨w.heap.size, 8, none⟩ = some (.slice none 0 0) := fun o => M.bk_cell (V1A.out o) 8 _ rfl
    have r9 : ∀ o, (w1.alloc o).cell? ⟨w.heap.size, 9, none⟩ = some (.int .i64 0) := fun o => M.bk_cell (V1A.out o) 9 _ rfl
    have fr : ∀ o j, (w1.alloc o).frozen? ⟨w.heap.size, j, none⟩ = false := fun o j => M.bk_free (V1A.out o) j
    clear hT q0 q1 q2 q3 q4 q5 q6 q7 q8
    go_wp2
    refine bodyPost_ret (v := .agg #[.int .i64 0, .string ⟨#[]⟩, .int .i64 0, .int .i64 0, .int .i64 0, .int .i64 0, .int .i64 0, .int .i64 0, .slice none 0 0, .int .i64 3]) (by simp [results, Try.results12, go_sem, r0, r1, r2, r3, r4, r5, r6, r7, r8, r9]) rfl ⟨.slice none 0 0, ?_, ?_, ?_⟩
    · obtain ⟨rfl, rfl⟩ := Prod.mk.inj HT.out
      rfl
    · obtain ⟨rfl, rfl⟩ := Prod.mk.inj HT.out
      exact M.OwnPt.nil _ _
    · iterate 10 refine KB.out _ _ ?_
      exact B1A.out _
  | some b =>
    have e2 : ∀ o, (w1.alloc o).cell? ⟨w.heap.size + 1, 2, none⟩ = some .nilIface := fun o => by
      have hh : (w1.alloc o).heap[w.heap.size + 1]? = some (.cells #[.string t, .int .i64 (b : Int), .nilIface] 70 (0, 0)) := R1A.out o
      exact M.bk_cell hh 2 _ rfl
    have CB := M.hl (iDumpB_any W2 x1 hs x2 x3 x4 x5 x6 x7 va n vc ps P2.out (by have := HH.out; unfold maxLen; omega))
    have HHE := M.hl HE.out
    obtain ⟨p, hp⟩ : ∃ p, p = M.dumpT ⟨x1, hs, x2, x3, x4, x5, x6, x7, ps⟩ := ⟨_, rfl⟩
    rw [← hp] at CB HHE
    clear hp HE q0 q1 q2 q3 q4 q5 q6 q7 q8
    go_wp2_with fail
    rw [← HW2.out]
    refine CB.out.mono ?_
    rintro e w3 ⟨rfl, hb⟩
    have V3 := M.hl (M.keepO V2.out hb)
    have D3 := M.hl (M.keepO D2.out hb)
    have O3 := M.hl (O2.out.below hb)
    have B3 := M.hl (M.sl B2.out hb)
    have fr := M.bk_free V3.out
    have r0 := M.bk_cell V3.out 0 (.int .i64 0) rfl
    have r1 := M.bk_cell V3.out 1 (.string ⟨#[]⟩) rfl
    have r2 := M.bk_cell V3.out 2 (.int .i64 0) rfl
    have r3 := M.bk_cell V3.out 3 (.int .i64 0) rfl
    have r4 := M.bk_cell V3.out 4 (.int .i64 0) rfl
    have r5 := M.bk_cell V3.out 5 (.int .i64 0) rfl
    have r6 := M.bk_cell V3.out 6 (.int .i64 0) rfl
    have r7 := M.bk_cell V3.out 7 (.int .i64 0) rfl
    have r8 := M.bk_cell V3.out 8 (.slice none 0 0) rfl
    have r9 := M.bk_cell V3.out 9 (.int .i64 0) rfl
    obtain ⟨q0, q1, q2, q3, q4, q5, q6, q7, q8⟩ := M.bk9 D3.out
    clear hb e2
    cases hq : (p.toList == t.toList)
    · have hne : p ≠ t := fun e => by rw [e] at hq; simp at hq
      have hT : (D, z) = (M.dzero, 3) := by rw [HHE.out, if_pos (.inr hne)]
      have HT := M.hl hT
      have hq2 : (p.toList != t.toList) = true := by rw [bne, hq]; rfl
      clear hne hT
      go_wp2
      refine bodyPost_ret (v := .agg #[.int .i64 0, .string ⟨#[]⟩, .int .i64 0, .int .i64 0, .int .i64 0, .int .i64 0, .int .i64 0, .int .i64 0, .slice none 0 0, .int .i64 3]) (by simp [results, Try.results12, go_sem, r0, r1, r2, r3, r4, r5, r6, r7, r8, r9]) rfl ⟨.slice none 0 0, ?_, ?_, ?_⟩
      · obtain ⟨rfl, rfl⟩ := Prod.mk.inj HT.out
        rfl
      · obtain ⟨rfl, rfl⟩ := Prod.mk.inj HT.out
        exact M.OwnPt.nil _ _
      · iterate 10 refine KB.out _ _ ?_
        exact B3.out
    · have he : p = t := by
        have := beq_iff_eq.1 hq
        rw [ByteArray.toList_eq, ByteArray.toList_eq] at this
        exact M.ba_ext this
      have hT : (D, z) = (⟨x1, hs, x2, x3, x4, x5, x6, x7, ps⟩, 0) := by rw [HHE.out, if_neg (by rintro (h | h); cases h; exact h he)]
      have HT := M.hl hT
      have hq2 : (p.toList != t.toList) = false := by rw [bne, hq]; rfl
      clear he hT
      go_wp2
      refine bodyPost_ret (v := .agg #[.int .i64 x1, .string hs, .int .i64 x2, .int .i64 x3, .int .i64 x4, .int .i64 x5, .int .i64 x6, .int .i64 x7, .slice va n vc, .int .i64 0]) (by simp [results, Try.results12, go_sem, r0, r1, r2, r3, r4, r5, r6, r7, r8, r9]) rfl ⟨.slice va n vc, ?_, ?_, ?_⟩
      · obtain ⟨rfl, rfl⟩ := Prod.mk.inj HT.out
        rfl
      · obtain ⟨rfl, rfl⟩ := Prod.mk.inj HT.out
        have key : ∀ {W : World} (j : Nat) (u : Value), M.OwnPt W W0.heap.size (.slice va n vc) ps → M.OwnPt (W.setCell ⟨w.heap.size, j, none⟩ u) W0.heap.size (.slice va n vc) ps := fun j u hO => hO.setAt (by intro g hg e; have := (World.ownsRow.lt O3.out g hg).1; have := Z0.out; omega) j u
        refine M.OwnPt.down (b := W0.heap.size) ?_ (by have := Z0.out; omega)
        iterate 10 refine key _ _ ?_
        exact O3.out
      · iterate 10 refine KB.out _ _ ?_
        exact B3.out
end Go.Proofs.Ytpokcbcffijheaa
