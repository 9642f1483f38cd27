/-
  Out of what the listed variables hold: the one cell of errors.errorType.
-/
import Derived.Test.YtephjmlcbpfnaaaGreatDoorPart1
import Derived.LaidSub
import Derived.LaidHandle
import Derived.LaidLaws
import Derived.ChangeOld
namespace Go.Proofs.YtephjmlcbpfnaaaGreatDoor
open Go.RowKit

theorem Tryz.errNamed : Tryz.prog.globalNamed "errors.errorType" = some 1 := by kernel_rfl
theorem Tryz.errOne : ((List.range 273).filter fun t => Tryz.prog.rowNamed t [101, 114, 114, 111, 114]) = [66] := by kernel_rfl
theorem Tryz.typesN : Tryz.prog.types.size = 273 := by kernel_rfl
theorem M.err_laid {l : List (String × DataW Unit)} {W : World} (h : laidMetH Tryz.prog l W) (hf : l.filter (fun x => x.1 == "errors.errorType") = [("errors.errorType", Rows.laid_errors_errorType)]) : M.errT W := by
  have h1 := laidMetH.filter (fun x => x.1 == "errors.errorType") h
  rw [hf] at h1
  have h' : laidMet Tryz.prog [] W ∧ handlesMet Tryz.prog [("errors.errorType", Rows.laid_errors_errorType)] W := h1
  obtain ⟨name, u, ty, e1, e2, e3, e4, e5⟩ := h'.2 _ (List.mem_singleton.2 rfl)
  have en : name = [101, 114, 114, 111, 114] := (Option.some.inj e1).symm
  subst en
  obtain rfl : u = 193 := Option.some.inj (e2.symm.trans (by kernel_rfl))
  have hm : ty ∈ (List.range 273).filter fun t => Tryz.prog.rowNamed t [101, 114, 114, 111, 114] := List.mem_filter.2 ⟨List.mem_range.2 (by rw [← Tryz.typesN]; exact e3), e4⟩
  rw [Tryz.errOne] at hm
  obtain rfl := List.mem_singleton.1 hm
  have hh : typeHandle Tryz.prog 66 = .pointer (some ⟨7, 66, none⟩) := by kernel_rfl
  rw [hh] at e5
  unfold M.errT
  simpa using World.var?_cell Tryz.errNamed e5 0
/-- The cell of that variable, for the world in which the listed variables are laid. -/
def M.errIn : Obj → Obj
  | .cells _ t frozen => .cells #[.iface 193 (.agg #[.pointer (some ⟨7, 66, none⟩)])] t frozen
  | o => o
end Go.Proofs.YtephjmlcbpfnaaaGreatDoor
