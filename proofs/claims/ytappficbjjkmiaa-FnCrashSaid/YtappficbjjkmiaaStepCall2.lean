/-
  A law for an operation of a region that draws its order: a call of two arguments, by its contract.
-/
import Derived.WalkKit
import Derived.Deep.RegionLaw
namespace Go.Proofs.Ytappficbjjkmiaa
open Go.RowKit

theorem M.stepCall2 {P : Program} {w : World} {ops : Array Oper} {o : Oper} {a : Act} {K : Act → World → Prop} {Q : Exit → Act → World → Prop} {E : Prop} (hgd : o.guard = none) (f : FuncId) (s1 s2 : Operand) (t1 t2 : TypeId)
    (ho : o.op = .call { callee := .value (.func f), args := #[s1, s2], argTypes := #[t1, t2] }) (v1 v2 : Value) (h1 : a.eval s1 = v1) (h2 : a.eval s2 = v2) (v : Value) (R : World → Prop)
    (hC : Calls P f #[v1, v2] w fun e w' => e = .returned v ∧ R w') (hcf : (callFunc f #[v1, v2]).run P w = .ok (.enter f #[v1, v2]) w) (h : ∀ w', R w' → K (a.put o.dst v) w') :
    if Region.wanted o (yielded ops a.tmps) = true then Oper.wp P o a w K Q else E := by
  have hw : Region.wanted o (yielded ops a.tmps) = true := by simp [Region.wanted, hgd]
  rw [if_pos hw]
  have hr : (execOp a.eval o).run P w = .ok (.enter f #[v1, v2]) w := by
    have h0 : a.eval (.func f) = .func (.func f) #[] #[] := rfl
    unfold execOp
    simp [ho, resolve, invoke, Deferred.ofValue, h0, h1, h2, hcf]
  unfold Oper.wp
  rw [hr, Oper.upon_enter]
  refine hC.mono ?_
  rintro e w' ⟨rfl, hR⟩
  exact h w' hR
end Go.Proofs.Ytappficbjjkmiaa
