/-
  The cells of a variable that reads as a given datum: for the world in which the listed variables are laid.
-/
import Derived.WalkKit
namespace Go.Proofs.YtephjmlcbpfnaaaGreatDoor

def M.cells1 : DataW Unit → List Value
  | .lit (.int k n) => [.int k n]
  | _ => []
def M.cells2 : DataW Unit → List Value
  | .agg l => l.flatMap M.cells1
  | d => M.cells1 d
def M.cellsD : DataW Unit → List Value
  | .agg l => l.flatMap M.cells2
  | d => M.cells2 d
def M.laidIn (d : DataW Unit) : Obj → Obj
  | .cells _ t frozen => .cells (M.cellsD d).toArray t frozen
  | o => o
end Go.Proofs.YtephjmlcbpfnaaaGreatDoor
