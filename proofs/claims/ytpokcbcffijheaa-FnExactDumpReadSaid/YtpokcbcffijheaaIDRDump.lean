/-
  What dump of the program's dump reader does.
-/
import Derived.Test.YtpokcbcffijheaaIDRParts
import Derived.Test.YtpokcbcffijheaaDumpSW
namespace Go.Proofs.Ytpokcbcffijheaa
open Go.RowKit

theorem M.rhead_eq (t : ByteArray) : M.rhead t = (⟨(M.rnum t (some 0)).1, (M.rtxt t (M.rnum t (some 0)).2).1, (M.rnum t (M.rtxt t (M.rnum t (some 0)).2).2).1, (M.rnum t (M.rnum t (M.rtxt t (M.rnum t (some 0)).2).2).2).1, (M.rnum t (M.rnum t (M.rnum t (M.rtxt t (M.rnum t (some 0)).2).2).2).2).1, (M.rnum t (M.rnum t (M.rnum t (M.rnum t (M.rtxt t (M.rnum t (some 0)).2).2).2).2).2).1, (M.rnum t (M.rnum t (M.rnum t (M.rnum t (M.rnum t (M.rtxt t (M.rnum t (some 0)).2).2).2).2).2).2).1, (M.rnum t (M.rnum t (M.rnum t (M.rnum t (M.rnum t (M.rnum t (M.rtxt t (M.rnum t (some 0)).2).2).2).2).2).2).2).1, []⟩, (M.rnum t (M.rnum t (M.rnum t (M.rnum t (M.rnum t (M.rnum t (M.rnum t (M.rtxt t (M.rnum t (some 0)).2).2).2).2).2).2).2).2).1, (M.rnum t (M.rnum t (M.rnum t (M.rnum t (M.rnum t (M.rnum t (M.rnum t (M.rtxt t (M.rnum t (some 0)).2).2).2).2).2).2).2).2).2) := rfl
theorem M.rdump_eq (t : ByteArray) : M.rdump t = (⟨(M.rnum t (some 0)).1, (M.rtxt t (M.rnum t (some 0)).2).1, (M.rnum t (M.rtxt t (M.rnum t (some 0)).2).2).1, (M.rnum t (M.rnum t (M.rtxt t (M.rnum t (some 0)).2).2).2).1, (M.rnum t (M.rnum t (M.rnum t (M.rtxt t (M.rnum t (some 0)).2).2).2).2).1, (M.rnum t (M.rnum t (M.rnum t (M.rnum t (M.rtxt t (M.rnum t (some 0)).2).2).2).2).2).1, (M.rnum t (M.rnum t (M.rnum t (M.rnum t (M.rnum t (M.rtxt t (M.rnum t (some 0)).2).2).2).2).2).2).1, (M.rnum t (M.rnum t (M.rnum t (M.rnum t (M.rnum t (M.rnum t (M.rtxt t (M.rnum t (some 0)).2).2).2).2).2).2).2).1, (M.rpts t (M.rnum t (M.rnum t (M.rnum t (M.rnum t (M.rnum t (M.rnum t (M.rtxt t (M.rnum t (some 0)).2).2).2).2).2).2).2).2).1⟩, (M.rpts t (M.rnum t (M.rnum t (M.rnum t (M.rnum t (M.rnum t (M.rnum t (M.rtxt t (M.rnum t (some 0)).2).2).2).2).2).2).2).2).2) := by
  have h := M.rhead_eq t
  unfold M.rdump
  rw [h]
  generalize (M.rnum t (M.rnum t (M.rnum t (M.rnum t (M.rnum t (M.rnum t (M.rtxt t (M.rnum t (some 0)).2).2).2).2).2).2).2).2 = s8
  unfold M.rpts
  simp only
  by_cases hc : 0 ≤ (M.rnum t s8).1 ∧ (M.rnum t s8).1 ≤ 8
  · rw [if_pos hc, if_pos hc]
  · rw [if_neg hc, if_neg hc]
theorem M.rdump_pts (t : ByteArray) : ∃ (x1 : Int) (hs : ByteArray) (x2 x3 x4 x5 x6 x7 : Int) (s1 s2 s3 s4 s5 s6 s7 s8 : Option Nat), M.rnum t (some 0) = (x1, s1) ∧ M.rtxt t s1 = (hs, s2) ∧ M.rnum t s2 = (x2, s3) ∧ M.rnum t s3 = (x3, s4) ∧ M.rnum t s4 = (x4, s5) ∧ M.rnum t s5 = (x5, s6) ∧ M.rnum t s6 = (x6, s7) ∧ M.rnum t s7 = (x7, s8) ∧ M.rdump t = (⟨x1, hs, x2, x3, x4, x5, x6, x7, (M.rpts t s8).1⟩, (M.rpts t s8).2) :=
  ⟨(M.rnum t (some 0)).1, (M.rtxt t (M.rnum t (some 0)).2).1, (M.rnum t (M.rtxt t (M.rnum t (some 0)).2).2).1, (M.rnum t (M.rnum t (M.rtxt t (M.rnum t (some 0)).2).2).2).1, (M.rnum t (M.rnum t (M.rnum t (M.rtxt t (M.rnum t (some 0)).2).2).2).2).1, (M.rnum t (M.rnum t (M.rnum t (M.rnum t (M.rtxt t (M.rnum t (some 0)).2).2).2).2).2).1, (M.rnum t (M.rnum t (M.rnum t (M.rnum t (M.rnum t (M.rtxt t (M.rnum t (some 0)).2).2).2).2).2).2).1, (M.rnum t (M.rnum t (M.rnum t (M.rnum t (M.rnum t (M.rnum t (M.rtxt t (M.rnum t (some 0)).2).2).2).2).2).2).2).1, (M.rnum t (some 0)).2, (M.rtxt t (M.rnum t (some 0)).2).2, (M.rnum t (M.rtxt t (M.rnum t (some 0)).2).2).2, (M.rnum t (M.rnum t (M.rtxt t (M.rnum t (some 0)).2).2).2).2, (M.rnum t (M.rnum t (M.rnum t (M.rtxt t (M.rnum t (some 0)).2).2).2).2).2, (M.rnum t (M.rnum t (M.rnum t (M.rnum t (M.rtxt t (M.rnum t (some 0)).2).2).2).2).2).2, (M.rnum t (M.rnum t (M.rnum t (M.rnum t (M.rnum t (M.rtxt t (M.rnum t (some 0)).2).2).2).2).2).2).2, (M.rnum t (M.rnum t (M.rnum t (M.rnum t (M.rnum t (M.rnum t (M.rtxt t (M.rnum t (some 0)).2).2).2).2).2).2).2).2, rfl, rfl, rfl, rfl, rfl, rfl, rfl, rfl, M.rdump_eq t⟩
theorem M.midUp {H : Nat} {a b c : World} (h : M.Mid H (H + 1) a b) (k : M.Mid H (H + 1) b c) : M.Mid H (H + 1) a c := h.trans k

set_option maxRecDepth 100000 in
set_option maxHeartbeats 3200000 in
theorem iDRDump_any (w : World) (H : Nat) (t : ByteArray) (hs20 : t.size ≤ 20000) (h : M.RdB w H t (some 0)) :
    Calls Try.prog 46 #[.pointer (some ⟨H, 0, none⟩)] w fun e w' => ∃ v, e = .returned (M.dval (M.rdump t).1 v) ∧ M.OwnPt w' w.heap.size v (M.rdump t).1.ps ∧ M.RdB w' H t (M.rdump t).2 ∧ M.Mid H (H + 1) w w' := by
  obtain ⟨x1, hs, x2, x3, x4, x5, x6, x7, s1, s2, s3, s4, s5, s6, s7, s8, e1, e2, e3, e4, e5, e6, e7, e8, e9⟩ := M.rdump_pts t
  rw [e9]
  unfold M.dval
  simp only
  have HLT := M.hl (M.rdB_lt h)
  have L0 : ∀ a, some 0 = some a → a ≤ t.size := fun a e => by cases e; omega
  have C1 : Hid (∀ W, M.RdB W H t (some 0) → Calls Try.prog 73 #[.pointer (some ⟨H, 0, none⟩)] W fun e w' => e = .returned (.int .i64 x1) ∧ M.RdB w' H t s1 ∧ M.Mid H (H + 1) W w') := fun W hW => by have := iDRNum_any W H t (some 0) hs20 L0 hW; rwa [e1] at this
  have L1 : ∀ a, s1 = some a → a ≤ t.size := fun a e => M.rnum_le (st := (some 0)) (by rw [e1]; exact e)
  have C2 : Hid (∀ W, M.RdB W H t s1 → Calls Try.prog 74 #[.pointer (some ⟨H, 0, none⟩)] W fun e w' => e = .returned (.string hs) ∧ M.RdB w' H t s2 ∧ M.Mid H (H + 1) W w') := fun W hW => by have := iDRName_any W H t s1 hs20 L1 hW; rwa [e2] at this
  have L2 : ∀ a, s2 = some a → a ≤ t.size := fun a e => M.rtxt_le (st := s1) (by rw [e2]; exact e)
  have C3 : Hid (∀ W, M.RdB W H t s2 → Calls Try.prog 73 #[.pointer (some ⟨H, 0, none⟩)] W fun e w' => e = .returned (.int .i64 x2) ∧ M.RdB w' H t s3 ∧ M.Mid H (H + 1) W w') := fun W hW => by have := iDRNum_any W H t s2 hs20 L2 hW; rwa [e3] at this
  have L3 : ∀ a, s3 = some a → a ≤ t.size := fun a e => M.rnum_le (st := s2) (by rw [e3]; exact e)
  have C4 : Hid (∀ W, M.RdB W H t s3 → Calls Try.prog 73 #[.pointer (some ⟨H, 0, none⟩)] W fun e w' => e = .returned (.int .i64 x3) ∧ M.RdB w' H t s4 ∧ M.Mid H (H + 1) W w') := fun W hW => by have := iDRNum_any W H t s3 hs20 L3 hW; rwa [e4] at this
  have L4 : ∀ a, s4 = some a → a ≤ t.size := fun a e => M.rnum_le (st := s3) (by rw [e4]; exact e)
  have C5 : Hid (∀ W, M.RdB W H t s4 → Calls Try.prog 73 #[.pointer (some ⟨H, 0, none⟩)] W fun e w' => e = .returned (.int .i64 x4) ∧ M.RdB w' H t s5 ∧ M.Mid H (H + 1) W w') := fun W hW => by have := iDRNum_any W H t s4 hs20 L4 hW; rwa [e5] at this
  have L5 : ∀ a, s5 = some a → a ≤ t.size := fun a e => M.rnum_le (st := s4) (by rw [e5]; exact e)
  have C6 : Hid (∀ W, M.RdB W H t s5 → Calls Try.prog 73 #[.pointer (some ⟨H, 0, none⟩)] W fun e w' => e = .returned (.int .i64 x5) ∧ M.RdB w' H t s6 ∧ M.Mid H (H + 1) W w') := fun W hW => by have := iDRNum_any W H t s5 hs20 L5 hW; rwa [e6] at this
  have L6 : ∀ a, s6 = some a → a ≤ t.size := fun a e => M.rnum_le (st := s5) (by rw [e6]; exact e)
  have C7 : Hid (∀ W, M.RdB W H t s6 → Calls Try.prog 73 #[.pointer (some ⟨H, 0, none⟩)] W fun e w' => e = .returned (.int .i64 x6) ∧ M.RdB w' H t s7 ∧ M.Mid H (H + 1) W w') := fun W hW => by have := iDRNum_any W H t s6 hs20 L6 hW; rwa [e7] at this
  have L7 : ∀ a, s7 = some a → a ≤ t.size := fun a e => M.rnum_le (st := s6) (by rw [e7]; exact e)
  have C8 : Hid (∀ W, M.RdB W H t s7 → Calls Try.prog 73 #[.pointer (some ⟨H, 0, none⟩)] W fun e w' => e = .returned (.int .i64 x7) ∧ M.RdB w' H t s8 ∧ M.Mid H (H + 1) W w') := fun W hW => by have := iDRNum_any W H t s7 hs20 L7 hW; rwa [e8] at this
  have L8 : ∀ a, s8 = some a → a ≤ t.size := fun a e => M.rnum_le (st := s7) (by rw [e8]; exact e)
  have C9 : Hid (∀ W, M.RdB W H t s8 → Calls Try.prog 75 #[.pointer (some ⟨H, 0, none⟩)] W fun e w' => ∃ v, e = .returned v ∧ M.OwnPt w' W.heap.size v (M.rpts t s8).1 ∧ M.RdB w' H t (M.rpts t s8).2 ∧ M.Mid H (H + 1) W w') := fun W hW => iDRParts_any W H t s8 hs20 L8 hW
  generalize (M.rpts t s8).1 = ps at C9
  generalize (M.rpts t s8).2 = st at C9
  have A0 : Hid (∀ o, M.RdB (w.alloc o) H t (some 0)) := fun o => M.rdB_blk h (heap_alloc_old _ _ HLT.out)
  have M0 : Hid (∀ o, M.Mid H (H + 1) w (w.alloc o)) := fun o => M.Mid.of_below ((Below.refl _ _).alloc (Nat.le_refl _) _)
  clear h e1 e2 e3 e4 e5 e6 e7 e8 e9 L0 L1 L2 L3 L4 L5 L6 L7 L8
  obtain ⟨W0, hW0⟩ : ∃ W0, W0 = w.alloc (.cells #[.int .i64 0, .string ⟨#[]⟩, .int .i64 0, .int .i64 0, .int .i64 0, .int .i64 0, .int .i64 0, .int .i64 0, .slice none 0 0] 25) := ⟨_, rfl⟩
  have R0 : Hid (M.RdB W0 H t (some 0)) := by rw [hW0]; exact A0.out _
  have N0 : Hid (M.Mid H (H + 1) w W0) := by rw [hW0]; exact M0.out _
  have V0 : Hid (W0.heap[w.heap.size]? = some (.cells #[.int .i64 0, .string ⟨#[]⟩, .int .i64 0, .int .i64 0, .int .i64 0, .int .i64 0, .int .i64 0, .int .i64 0, .slice none 0 0] 25 (0, 0))) := by rw [hW0]; exact heap_alloc_new _ _
  have Z0 : Hid (w.heap.size + 1 ≤ W0.heap.size) := by rw [hW0]; show _ ≤ _; simp
  have HW0 := M.hl hW0
  clear hW0 A0 M0
  have KM : Hid (∀ {A B : World} {o : Obj}, A.heap[w.heap.size]? = some o → M.Mid H (H + 1) A B → B.heap[w.heap.size]? = some o) := fun {A B o} hA hm => (hm.block _ (Array.getElem?_eq_some_iff.1 hA).1 (.inr (Nat.succ_le_of_lt HLT.out))).trans hA
  go_enter Try.func46, Try.ntmps46
  go_wp2_with fail
  rw [← HW0.out]
  refine (C1.out W0 R0.out).mono ?_
  rintro e W1 ⟨rfl, hR, hm⟩
  have R1 := M.hl hR
  have N1 := M.hl (N0.out.trans hm)
  have V1 := M.hl (KM.out V0.out hm)
  have Z1 := M.hl (Nat.le_trans Z0.out hm.size)
  clear hR hm C1 R0 V0 Z0
  go_wp2_with fail
  refine (C2.out W1 R1.out).mono ?_
  rintro e W2 ⟨rfl, hR, hm⟩
  have R2 := M.hl hR
  have N2 := M.hl (N1.out.trans hm)
  have V2 := M.hl (KM.out V1.out hm)
  have Z2 := M.hl (Nat.le_trans Z1.out hm.size)
  clear hR hm C2 R1 V1 Z1
  go_wp2_with fail
  refine (C3.out W2 R2.out).mono ?_
  rintro e W3 ⟨rfl, hR, hm⟩
  have R3 := M.hl hR
  have N3 := M.hl (N2.out.trans hm)
  have V3 := M.hl (KM.out V2.out hm)
  have Z3 := M.hl (Nat.le_trans Z2.out hm.size)
  clear hR hm C3 R2 V2 Z2
  go_wp2_with fail
  refine (C4.out W3 R3.out).mono ?_
  rintro e W4 ⟨rfl, hR, hm⟩
  have R4 := M.hl hR
  have N4 := M.hl (N3.out.trans hm)
  have V4 := M.hl (KM.out V3.out hm)
  have Z4 := M.hl (Nat.le_trans Z3.out hm.size)
  clear hR hm C4 R3 V3 Z3
  go_wp2_with fail
  refine (C5.out W4 R4.out).mono ?_
  rintro e W5 ⟨rfl, hR, hm⟩
  have R5 := M.hl hR
  have N5 := M.hl (N4.out.trans hm)
  have V5 := M.hl (KM.out V4.out hm)
  have Z5 := M.hl (Nat.le_trans Z4.out hm.size)
  clear hR hm C5 R4 V4 Z4
  go_wp2_with fail
  refine (C6.out W5 R5.out).mono ?_
  rintro e W6 ⟨rfl, hR, hm⟩
  have R6 := M.hl hR
  have N6 := M.hl (N5.out.trans hm)
  have V6 := M.hl (KM.out V5.out hm)
  have Z6 := M.hl (Nat.le_trans Z5.out hm.size)
  clear hR hm C6 R5 V5 Z5
  go_wp2_with fail
  refine (C7.out W6 R6.out).mono ?_
  rintro e W7 ⟨rfl, hR, hm⟩
  have R7 := M.hl hR
  have N7 := M.hl (N6.out.trans hm)
  have V7 := M.hl (KM.out V6.out hm)
  have Z7 := M.hl (Nat.le_trans Z6.out hm.size)
  clear hR hm C7 R6 V6 Z6
  go_wp2_with fail
  refine (C8.out W7 R7.out).mono ?_
  rintro e W8 ⟨rfl, hR, hm⟩
  have R8 := M.hl hR
  have N8 := M.hl (N7.out.trans hm)
  have V8 := M.hl (KM.out V7.out hm)
  have Z8 := M.hl (Nat.le_trans Z7.out hm.size)
  clear hR hm C8 R7 V7 Z7
  go_wp2_with fail
  refine (C9.out W8 R8.out).mono ?_
  rintro e W9 ⟨v, rfl, hO, hR, hm⟩
  have R9 := M.hl hR
  have N9 := M.hl (N8.out.trans hm)
  have V9 := M.hl (KM.out V8.out hm)
  have O9 := M.hl hO
  obtain ⟨va, vc, rfl⟩ := hO.len
  clear hR hm hO C9 R8 V8
  obtain ⟨r0, r1, r2, r3, r4, r5, r6, r7, r8⟩ := M.bk9 V9.out
  have fr := M.bk_free V9.out
  go_wp2
  refine bodyPost_ret (v := .agg #[.int .i64 x1, .string hs, .int .i64 x2, .int .i64 x3, .int .i64 x4, .int .i64 x5, .int .i64 x6, .int .i64 x7, .slice va ps.length vc]) (by simp [results, Try.results46, go_sem, r0, r1, r2, r3, r4, r5, r6, r7, r8]) rfl ⟨_, rfl, ?_, ?_, ?_⟩
  · have key : ∀ {W : World} (j : Nat) (u : Value), M.OwnPt W W8.heap.size (.slice va ps.length vc) ps → M.OwnPt (W.setCell ⟨w.heap.size, j, none⟩ u) W8.heap.size (.slice va ps.length vc) ps := fun j u hO => hO.setAt (by intro g hg e; have := (World.ownsRow.lt O9.out g hg).1; have := Z8.out; omega) j u
    refine M.OwnPt.down (b := W8.heap.size) ?_ (by have := Z8.out; omega)
    iterate 9 refine key _ _ ?_
    exact O9.out
  · have key : ∀ {W : World} (j : Nat) (u : Value), M.RdB W H t st → M.RdB (W.setCell ⟨w.heap.size, j, none⟩ u) H t st := fun j u hR => M.rdB_blk hR (M.setfr (by have := HLT.out; omega))
    iterate 9 refine key _ _ ?_
    exact R9.out
  · have key : ∀ {W : World} (j : Nat) (u : Value), M.Mid H (H + 1) w W → M.Mid H (H + 1) w (W.setCell ⟨w.heap.size, j, none⟩ u) := fun j u hM => ⟨hM.os, hM.tape, hM.output, by have := hM.size; simp [World.setCell]; omega, fun k hk ho => by rw [M.setfr (by omega)]; exact hM.block k hk ho⟩
    iterate 9 refine key _ _ ?_
    exact N9.out
end Go.Proofs.Ytpokcbcffijheaa
