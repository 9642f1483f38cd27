/-
  Laws for operations of a region that draws its order: calls that may be guarded, and whose answer may hang on the world.
-/
import Derived.WalkKit
import Derived.Deep.RegionLaw
import Derived.Deep.RegionWith
namespace Go.Proofs.Ytpokcbcffijheab
open Go.RowKit

theorem M.stepCallE1 {P : Program} {w : World} {ops : Array Oper} {o : Oper} {a : Act} {K : Act → World → Prop} {Q : Exit → Act → World → Prop} {E : Prop} (q : Nat) (hq : o.dst = some q) (hw : Region.wanted o (yielded ops a.tmps) = true) (f : FuncId) (s1 : Operand) (t1 : TypeId)
    (ho : o.op = .call { callee := .value (.func f), args := #[s1], argTypes := #[t1] }) (v1 : Value) (h1 : a.eval s1 = v1) (R : Value → World → Prop)
    (hC : Calls P f #[v1] w fun e w' => ∃ v, e = .returned v ∧ R v w') (hcf : (callFunc f #[v1]).run P w = .ok (.enter f #[v1]) w) (h : ∀ v w', R v w' → K (a.put (some q) v) w') :
    if Region.wanted o (yielded ops a.tmps) = true then Oper.wp P o a w K Q else E := by
  rw [if_pos hw]
  have hr : (execOp a.eval o).run P w = .ok (.enter f #[v1]) w := by
    have h0 : a.eval (.func f) = .func (.func f) #[] #[] := rfl
    unfold execOp
    simp [ho, resolve, invoke, Deferred.ofValue, h0, h1, hcf]
  unfold Oper.wp
  rw [hr, Oper.upon_enter]
  refine hC.mono ?_
  rintro e w' ⟨v, rfl, hR⟩
  rw [hq]
  exact h v w' hR
theorem M.stepCallE2 {P : Program} {w : World} {ops : Array Oper} {o : Oper} {a : Act} {K : Act → World → Prop} {Q : Exit → Act → World → Prop} {E : Prop} (q : Nat) (hq : o.dst = some q) (hw : Region.wanted o (yielded ops a.tmps) = true) (f : FuncId) (s1 s2 : Operand) (t1 t2 : TypeId)
    (ho : o.op = .call { callee := .value (.func f), args := #[s1, s2], argTypes := #[t1, t2] }) (v1 v2 : Value) (h1 : a.eval s1 = v1) (h2 : a.eval s2 = v2) (R : Value → World → Prop)
    (hC : Calls P f #[v1, v2] w fun e w' => ∃ v, e = .returned v ∧ R v w') (hcf : (callFunc f #[v1, v2]).run P w = .ok (.enter f #[v1, v2]) w) (h : ∀ v w', R v w' → K (a.put (some q) v) w') :
    if Region.wanted o (yielded ops a.tmps) = true then Oper.wp P o a w K Q else E := by
  rw [if_pos hw]
  have hr : (execOp a.eval o).run P w = .ok (.enter f #[v1, v2]) w := by
    have h0 : a.eval (.func f) = .func (.func f) #[] #[] := rfl
    unfold execOp
    simp [ho, resolve, invoke, Deferred.ofValue, h0, h1, h2, hcf]
  unfold Oper.wp
  rw [hr, Oper.upon_enter]
  refine hC.mono ?_
  rintro e w' ⟨v, rfl, hR⟩
  rw [hq]
  exact h v w' hR
theorem M.stepCallB {P : Program} {w : World} {ops : Array Oper} {o : Oper} {a : Act} {K : Act → World → Prop} {Q : Exit → Act → World → Prop} {E : Prop} (q : Nat) (hq : o.dst = some q) (hw : Region.wanted o (yielded ops a.tmps) = true) (f : FuncId) (s1 : Operand) (t1 : TypeId)
    (ho : o.op = .call { callee := .value (.func f), args := #[s1], argTypes := #[t1] }) (v1 : Value) (h1 : a.eval s1 = v1) (v : Value)
    (hC : Calls P f #[v1] w fun e w' => e = .returned v ∧ Below w.heap.size w w') (hcf : (callFunc f #[v1]).run P w = .ok (.enter f #[v1]) w) (h : ∀ w', Below w.heap.size w w' → K (a.put (some q) v) w') :
    if Region.wanted o (yielded ops a.tmps) = true then Oper.wp P o a w K Q else E :=
  M.stepCallE1 q hq hw f s1 t1 ho v1 h1 (fun u w' => u = v ∧ Below w.heap.size w w') (hC.mono fun _ _ ⟨e, hb⟩ => ⟨v, e, rfl, hb⟩) hcf (by rintro u w' ⟨rfl, hb⟩; exact h w' hb)
/-- An operation that yields in whatever world, or that its guard passes over, is taken first; its slot is written out. -/
theorem M.takeD {P : Program} {md : Region.Mode} {ops : Array Oper} {Q : Exit → Act → World → Prop} {i : Nat} {oi : Oper} {v : Value} {fuel : Nat} {listed : Array Bool} {a : Act} {w : World} (q : Nat) (hi : ops[i]? = some oi) (hd : oi.dst = some q)
    (hs : Region.noSelect ops = true) (hf : Region.free md ops listed i = true) (hr : (Region.ready md ops listed).contains i = true)
    (hQ : ∀ c a w, Q (.panic c) (a.put (some q) v) w → Q (.panic c) a w) (hy : Yields P ops oi v a)
    (h : wpAny P md ops Q fuel (listed.setIfInBounds i true) (a.put (some q) v) w) : wpAny P md ops Q (fuel + 1) listed a w :=
  wpAny_take hi hs hf hr (fun c a' w' h' => hQ c a' w' (by rw [← hd]; exact h')) hy (by rw [hd]; exact h)
end Go.Proofs.Ytpokcbcffijheab
