/-
  The cells of a variable that reads as a given datum: for the world in which the listed variables are laid.
-/
import Derived.WalkKit
namespace Go.Proofs.YtljfadialmhjgagDoor

mutual
def M.cellsD : DataW Unit → List Value
  | .lit (.int k n) => [.int k n]
  | .agg l => M.cellsDs l
  | _ => []
def M.cellsDs : List (DataW Unit) → List Value
  | [] => []
  | d :: l => M.cellsD d ++ M.cellsDs l
end
def M.laidIn (d : DataW Unit) : Obj → Obj
  | .cells _ t frozen => .cells (M.cellsD d).toArray t frozen
  | o => o
end Go.Proofs.YtljfadialmhjgagDoor
