/-
  Packets compared as wholes.
-/
import Derived.Test.YtgppdhfhcnkfpaaRows
import Derived.WalkKit
import Derived.Laws.StructEq
namespace Go.Proofs.Ytgppdhfhcnkfpaa
open Go.RowKit

theorem M.pktG (W : World) (x y : Operand) (xs ys : Array Value) : (eqGuard .eql 29 x y (.agg xs) (.agg ys)).run Try.prog W = .ok () W := run_eqGuard_agg W .eql 29 x y xs ys (by kernel_rfl)
theorem M.pktEq (q c r : Int) (l : Bool) (s : ByteArray) (W : World) : (binOp .eql 29 (.agg #[.int .i64 q, .bool l, .string s, .int .i64 c]) (.agg #[.int .i64 q, .bool l, .string s, .int .i64 r])).run Try.prog W = .ok (.bool (c == r)) W := by
  rw [run_eql_struct, run_equalIn_agg W 9999 29 _ _ (by kernel_rfl) (by kernel_rfl)]
  have hf : (Try.prog.fieldsOf 29) = (match Try.prog.underlying 29 with | some (.struct f) => f | _ => #[]) := rfl
  rw [hf, Try.underlying29]
  simp [Op.eqFields, go_sem]
  by_cases h : c = r <;> simp [h]
end Go.Proofs.Ytgppdhfhcnkfpaa
