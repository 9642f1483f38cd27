/-
  How the specification reads a dump.
-/
import Derived.Test.YtpokcbcffijheaaPart11
import Derived.Test.YtpokcbcffijheaaIDRead9
import Derived.Test.YtpokcbcffijheaaSDumpR
import Derived.Deep.RegionLaw
namespace Go.Proofs.Ytpokcbcffijheaa
open Go.RowKit

theorem M.sdB_lt {W : World} {H : Nat} {t : ByteArray} {st : Option Nat} (h : M.SdB W H t st) : H < W.heap.size := by
  cases st with
  | some a =>
    have h : W.heap[H]? = some _ := h
    exact (Array.getElem?_eq_some_iff.1 h).1
  | none =>
    obtain ⟨a, -, h⟩ := h
    exact (Array.getElem?_eq_some_iff.1 h).1
theorem M.sdB_blk {W W' : World} {H : Nat} {t : ByteArray} {st : Option Nat} (h : M.SdB W H t st) (hb : W'.heap[H]? = W.heap[H]?) : M.SdB W' H t st := by
  cases st with
  | some a => exact hb.trans h
  | none =>
    obtain ⟨a, ha, h⟩ := h
    exact ⟨a, ha, hb.trans h⟩
theorem sDRNum_any (w : World) (H : Nat) (t : ByteArray) (st : Option Nat) (hs : t.size ≤ 20000) (ha : ∀ a, st = some a → a ≤ t.size) (h : M.SdB w H t st) :
    Calls Try.prog 76 #[.pointer (some ⟨H, 0, none⟩)] w fun e w' => e = .returned (.int .i64 (M.rnum t st).1) ∧ M.SdB w' H t (M.rnum t st).2 ∧ M.Mid H (H + 1) w w' := by
  cases st with
  | none =>
    obtain ⟨a, ha, h⟩ := h
    exact (sDRNum_none w H t a hs ha h).mono (by rintro e w' ⟨rfl, h1, h2⟩; exact ⟨rfl, h1, M.grMid h2⟩)
  | some a => exact (sDRNum_some w H t a hs (ha a rfl) h).mono (by rintro e w' ⟨rfl, h1, h2⟩; exact ⟨rfl, h1, M.grMid h2⟩)
theorem sDRText_any (w : World) (H : Nat) (t : ByteArray) (st : Option Nat) (hs : t.size ≤ 20000) (ha : ∀ a, st = some a → a ≤ t.size) (h : M.SdB w H t st) :
    Calls Try.prog 77 #[.pointer (some ⟨H, 0, none⟩)] w fun e w' => e = .returned (.string (M.rtxt t st).1) ∧ M.SdB w' H t (M.rtxt t st).2 ∧ M.Mid H (H + 1) w w' := by
  cases st with
  | none =>
    obtain ⟨a, ha, h⟩ := h
    exact (sDRText_none w H t a hs ha h).mono (by rintro e w' ⟨rfl, h1, h2⟩; exact ⟨rfl, h1, M.grMid h2⟩)
  | some a => exact (sDRText_some w H t a hs (ha a rfl) h).mono (by rintro e w' ⟨rfl, h1, h2⟩; exact ⟨rfl, h1, M.grMid h2⟩)
theorem M.rparts_none {t : ByteArray} {st : Option Nat} {k : Nat} (h : (M.rparts t k st).2 = none) : ∀ n, k ≤ n → (M.rparts t n st).2 = none := by
  intro n hn
  induction n with
  | zero => obtain rfl : k = 0 := by omega
            exact h
  | succ n ih =>
    by_cases e : k = n + 1
    · rw [← e]; exact h
    · show (M.rpart t (M.rparts t n st).2).2 = none
      rw [ih (by omega)]
      rfl
/-- Is what stands there a dump, and no more? -/
def M.rok (t : ByteArray) : Bool := decide (0 ≤ (M.rhead t).2.1 ∧ (M.rhead t).2.1 ≤ 8) && decide ((M.rdump t).2 = some t.size) && M.dumpR (M.rdump t).1
theorem M.st9_0 {W : World} {D : Nat} {v0 v1 v2 v3 v4 v5 v6 v7 v8 : Value} {T : TypeId} (h : W.heap[D]? = some (.cells #[v0, v1, v2, v3, v4, v5, v6, v7, v8] T (0, 0))) (v : Value) : (W.setCell ⟨D, 0, none⟩ v).heap[D]? = some (.cells #[v, v1, v2, v3, v4, v5, v6, v7, v8] T (0, 0)) := by
  simp [World.setCell, Array.getElem?_modify, h]
theorem M.st9_1 {W : World} {D : Nat} {v0 v1 v2 v3 v4 v5 v6 v7 v8 : Value} {T : TypeId} (h : W.heap[D]? = some (.cells #[v0, v1, v2, v3, v4, v5, v6, v7, v8] T (0, 0))) (v : Value) : (W.setCell ⟨D, 1, none⟩ v).heap[D]? = some (.cells #[v0, v, v2, v3, v4, v5, v6, v7, v8] T (0, 0)) := by
  simp [World.setCell, Array.getElem?_modify, h]
theorem M.st9_2 {W : World} {D : Nat} {v0 v1 v2 v3 v4 v5 v6 v7 v8 : Value} {T : TypeId} (h : W.heap[D]? = some (.cells #[v0, v1, v2, v3, v4, v5, v6, v7, v8] T (0, 0))) (v : Value) : (W.setCell ⟨D, 2, none⟩ v).heap[D]? = some (.cells #[v0, v1, v, v3, v4, v5, v6, v7, v8] T (0, 0)) := by
  simp [World.setCell, Array.getElem?_modify, h]
theorem M.st9_3 {W : World} {D : Nat} {v0 v1 v2 v3 v4 v5 v6 v7 v8 : Value} {T : TypeId} (h : W.heap[D]? = some (.cells #[v0, v1, v2, v3, v4, v5, v6, v7, v8] T (0, 0))) (v : Value) : (W.setCell ⟨D, 3, none⟩ v).heap[D]? = some (.cells #[v0, v1, v2, v, v4, v5, v6, v7, v8] T (0, 0)) := by
  simp [World.setCell, Array.getElem?_modify, h]
theorem M.st9_4 {W : World} {D : Nat} {v0 v1 v2 v3 v4 v5 v6 v7 v8 : Value} {T : TypeId} (h : W.heap[D]? = some (.cells #[v0, v1, v2, v3, v4, v5, v6, v7, v8] T (0, 0))) (v : Value) : (W.setCell ⟨D, 4, none⟩ v).heap[D]? = some (.cells #[v0, v1, v2, v3, v, v5, v6, v7, v8] T (0, 0)) := by
  simp [World.setCell, Array.getElem?_modify, h]
theorem M.st9_5 {W : World} {D : Nat} {v0 v1 v2 v3 v4 v5 v6 v7 v8 : Value} {T : TypeId} (h : W.heap[D]? = some (.cells #[v0, v1, v2, v3, v4, v5, v6, v7, v8] T (0, 0))) (v : Value) : (W.setCell ⟨D, 5, none⟩ v).heap[D]? = some (.cells #[v0, v1, v2, v3, v4, v, v6, v7, v8] T (0, 0)) := by
  simp [World.setCell, Array.getElem?_modify, h]
theorem M.st9_6 {W : World} {D : Nat} {v0 v1 v2 v3 v4 v5 v6 v7 v8 : Value} {T : TypeId} (h : W.heap[D]? = some (.cells #[v0, v1, v2, v3, v4, v5, v6, v7, v8] T (0, 0))) (v : Value) : (W.setCell ⟨D, 6, none⟩ v).heap[D]? = some (.cells #[v0, v1, v2, v3, v4, v5, v, v7, v8] T (0, 0)) := by
  simp [World.setCell, Array.getElem?_modify, h]
theorem M.st9_7 {W : World} {D : Nat} {v0 v1 v2 v3 v4 v5 v6 v7 v8 : Value} {T : TypeId} (h : W.heap[D]? = some (.cells #[v0, v1, v2, v3, v4, v5, v6, v7, v8] T (0, 0))) (v : Value) : (W.setCell ⟨D, 7, none⟩ v).heap[D]? = some (.cells #[v0, v1, v2, v3, v4, v5, v6, v, v8] T (0, 0)) := by
  simp [World.setCell, Array.getElem?_modify, h]
theorem M.st9_8 {W : World} {D : Nat} {v0 v1 v2 v3 v4 v5 v6 v7 v8 : Value} {T : TypeId} (h : W.heap[D]? = some (.cells #[v0, v1, v2, v3, v4, v5, v6, v7, v8] T (0, 0))) (v : Value) : (W.setCell ⟨D, 8, none⟩ v).heap[D]? = some (.cells #[v0, v1, v2, v3, v4, v5, v6, v7, v] T (0, 0)) := by
  simp [World.setCell, Array.getElem?_modify, h]
theorem M.keepM9 {lo hi : Nat} {W W' : World} {b : Nat} {o : Obj} (h : W.heap[b]? = some o) (hm : M.Mid lo hi W W') (ho : b < lo ∨ hi ≤ b) : W'.heap[b]? = some o := (hm.block b (Array.getElem?_eq_some_iff.1 h).1 ho).trans h
/-- What holds while a dump is read: the reader's box, the dump's, the answer's, and all below. -/
structure M.LR (w W : World) (D : Nat) (t : ByteArray) (st : Option Nat) (c : Array Value) : Prop where
  rd : M.SdB W (w.heap.size + 1) t st
  dd : W.heap[D]? = some (.cells c 25 (0, 0))
  xx : W.heap[w.heap.size]? = some (.cells #[.int .i64 0, .string ⟨#[]⟩, .int .i64 0, .int .i64 0, .int .i64 0, .int .i64 0, .int .i64 0, .int .i64 0, .slice none 0 0] 25 (0, 0))
  bel : Below w.heap.size w W
  far : w.heap.size + 1 < D
theorem M.LR.call {w W W' : World} {D : Nat} {t : ByteArray} {st st' : Option Nat} {c : Array Value} (h : M.LR w W D t st c) (hr : M.SdB W' (w.heap.size + 1) t st') (hm : M.Mid (w.heap.size + 1) (w.heap.size + 1 + 1) W W') : M.LR w W' D t st' c :=
  ⟨hr, (hm.block _ (Array.getElem?_eq_some_iff.1 h.dd).1 (.inr h.far)).trans h.dd, (hm.block _ (Array.getElem?_eq_some_iff.1 h.xx).1 (.inl (Nat.lt_succ_self _))).trans h.xx, h.bel.trans ((hm.below (Nat.le_of_lt (M.sdB_lt h.rd))).mono (Nat.le_succ _)), h.far⟩
theorem M.LR.alloc {w W : World} {D : Nat} {t : ByteArray} {st : Option Nat} {c : Array Value} (h : M.LR w W D t st c) (o : Obj) : M.LR w (W.alloc o) D t st c :=
  ⟨M.sdB_blk h.rd (heap_alloc_old _ _ (M.sdB_lt h.rd)), (heap_alloc_old _ _ (Array.getElem?_eq_some_iff.1 h.dd).1).trans h.dd, (heap_alloc_old _ _ (Array.getElem?_eq_some_iff.1 h.xx).1).trans h.xx, h.bel.alloc h.bel.size _, h.far⟩
theorem M.LR.st {w W W' : World} {D : Nat} {t : ByteArray} {st : Option Nat} {c c' : Array Value} {j : Nat} {v : Value} (h : M.LR w W D t st c) (hW : W' = W.setCell ⟨D, j, none⟩ v) (hd : W'.heap[D]? = some (.cells c' 25 (0, 0))) : M.LR w W' D t st c' := by
  subst hW
  have hf := h.far
  exact ⟨M.sdB_blk h.rd (M.setfr (by omega)), hd, (M.setfr (by omega)).trans h.xx, h.bel.setCell (by show w.heap.size ≤ D; omega) _, h.far⟩
theorem M.LR.put {w W : World} {D : Nat} {t : ByteArray} {st : Option Nat} {c : Array Value} (h : M.LR w W D t st c) {g : Nat} (hg : D < g) (j : Nat) (v : Value) : M.LR w (W.setCell ⟨g, j, none⟩ v) D t st c := by
  have hf := h.far
  exact ⟨M.sdB_blk h.rd (M.setfr (by omega)), (M.setfr (by omega)).trans h.dd, (M.setfr (by omega)).trans h.xx, h.bel.setCell (by show w.heap.size ≤ g; omega) _, h.far⟩
theorem M.LR.grown {w W W' : World} {D : Nat} {t : ByteArray} {st : Option Nat} {c : Array Value} {row : Option Nat} (h : M.LR w W D t st c) (hg : W.grownBy W' row) (hr : ∀ g, row = some g → D < g) : M.LR w W' D t st c := by
  have hf := h.far
  have hx := (Array.getElem?_eq_some_iff.1 h.xx).1
  have hd := (Array.getElem?_eq_some_iff.1 h.dd).1
  refine ⟨M.sdB_blk h.rd (hg.block _ (M.sdB_lt h.rd) (fun e => by have := hr _ e.symm; omega)), (hg.block _ hd (fun e => by have := hr _ e.symm; omega)).trans h.dd, (hg.block _ hx (fun e => by have := hr _ e.symm; omega)).trans h.xx, ?_, hf⟩
  exact h.bel.trans ⟨hg.os, hg.tape, hg.output, Nat.le_trans h.bel.size hg.size |> fun _ => hg.size, fun k hk => hg.block k (by have := h.bel.size; omega) (fun e => by have := hr _ e.symm; omega)⟩
theorem M.st4_0 {W : World} {D : Nat} {v0 v1 v2 v3 : Value} {T : TypeId} (h : W.heap[D]? = some (.cells #[v0, v1, v2, v3] T (0, 0))) (v : Value) : (W.setCell ⟨D, 0, none⟩ v).heap[D]? = some (.cells #[v, v1, v2, v3] T (0, 0)) := by
  simp [World.setCell, Array.getElem?_modify, h]
theorem M.st4_1 {W : World} {D : Nat} {v0 v1 v2 v3 : Value} {T : TypeId} (h : W.heap[D]? = some (.cells #[v0, v1, v2, v3] T (0, 0))) (v : Value) : (W.setCell ⟨D, 1, none⟩ v).heap[D]? = some (.cells #[v0, v, v2, v3] T (0, 0)) := by
  simp [World.setCell, Array.getElem?_modify, h]
theorem M.st4_2 {W : World} {D : Nat} {v0 v1 v2 v3 : Value} {T : TypeId} (h : W.heap[D]? = some (.cells #[v0, v1, v2, v3] T (0, 0))) (v : Value) : (W.setCell ⟨D, 2, none⟩ v).heap[D]? = some (.cells #[v0, v1, v, v3] T (0, 0)) := by
  simp [World.setCell, Array.getElem?_modify, h]
theorem M.st4_3 {W : World} {D : Nat} {v0 v1 v2 v3 : Value} {T : TypeId} (h : W.heap[D]? = some (.cells #[v0, v1, v2, v3] T (0, 0))) (v : Value) : (W.setCell ⟨D, 3, none⟩ v).heap[D]? = some (.cells #[v0, v1, v2, v] T (0, 0)) := by
  simp [World.setCell, Array.getElem?_modify, h]
theorem M.stepCallG1 {P : Program} {w : World} {ops : Array Oper} {o : Oper} {a : Act} {K : Act → World → Prop} {Q : Exit → Act → World → Prop} {E : Prop} (hw : Region.wanted o (yielded ops a.tmps) = true) (f : FuncId) (s1 : Operand) (t1 : TypeId)
    (ho : o.op = .call { callee := .value (.func f), args := #[s1], argTypes := #[t1] }) (v1 : Value) (h1 : a.eval s1 = v1) (v : Value) (R : World → Prop)
    (hC : Calls P f #[v1] w fun e w' => e = .returned v ∧ R w') (hcf : (callFunc f #[v1]).run P w = .ok (.enter f #[v1]) w) (h : ∀ w', R w' → K (a.put o.dst v) w') :
    if Region.wanted o (yielded ops a.tmps) = true then Oper.wp P o a w K Q else E := by
  rw [if_pos hw]
  have hr : (execOp a.eval o).run P w = .ok (.enter f #[v1]) w := by
    have h0 : a.eval (.func f) = .func (.func f) #[] #[] := rfl
    unfold execOp
    simp [ho, resolve, invoke, Deferred.ofValue, h0, h1, hcf]
  unfold Oper.wp
  rw [hr, Oper.upon_enter]
  refine hC.mono ?_
  rintro e w' ⟨rfl, hR⟩
  exact h w' hR
theorem M.stepCallB {P : Program} {w : World} {ops : Array Oper} {o : Oper} {a : Act} {K : Act → World → Prop} {Q : Exit → Act → World → Prop} {E : Prop} (hw : Region.wanted o (yielded ops a.tmps) = true) (f : FuncId) (s1 : Operand) (t1 : TypeId)
    (ho : o.op = .call { callee := .value (.func f), args := #[s1], argTypes := #[t1] }) (v1 : Value) (h1 : a.eval s1 = v1) (v : Value)
    (hC : Calls P f #[v1] w fun e w' => e = .returned v ∧ Below w.heap.size w w') (hcf : (callFunc f #[v1]).run P w = .ok (.enter f #[v1]) w) (h : ∀ w', Below w.heap.size w w' → K (a.put o.dst v) w') :
    if Region.wanted o (yielded ops a.tmps) = true then Oper.wp P o a w K Q else E :=
  M.stepCallG1 hw f s1 t1 ho v1 h1 v _ hC hcf h
end Go.Proofs.Ytpokcbcffijheaa
