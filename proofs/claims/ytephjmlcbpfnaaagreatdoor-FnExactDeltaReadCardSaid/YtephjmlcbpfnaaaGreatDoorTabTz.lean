/-
  Out of what the listed tables hold: the cell that a base of eight asks for.
-/
import Derived.Test.YtephjmlcbpfnaaaGreatDoorPart17
import Derived.Lib.LaidTab
import Derived.LaidSub
namespace Go.Proofs.YtephjmlcbpfnaaaGreatDoor
open Go.RowKit

def M.ints : DataW Unit → List Int
  | .agg l => l.map fun | .lit (.int _ z) => z | _ => 0
  | _ => []
theorem M.laid_one {P : Program} {l : List (String × DataW Unit)} {n : String} {d : DataW Unit} {W : World} (h : laidMetH P l W) (hf : l.filter (fun x => x.1 == n) = [(n, d)]) (hd : d.handleName?.isNone = true) : laidMet P [(n, d)] W := by
  have := laidMetH.filter (fun x => x.1 == n) h
  rw [hf] at this
  unfold laidMetH at this
  have e : ([(n, d)].filter fun x : String × DataW Unit => x.2.handleName?.isSome) = [] := by
    cases hq : d.handleName? with
    | none => simp [hq]
    | some x => rw [hq] at hd; cases hd
  rw [e] at this
  exact this
theorem Tryz.tab64 : (Rows.laid_math_bits_deBruijn64tab : DataW Unit) = Lib.tabData .u8 (M.ints Rows.laid_math_bits_deBruijn64tab) := by kernel_rfl
theorem M.tz_laid {l : List (String × DataW Unit)} {W : World} (h : laidMetH Tryz.prog l W) (hf : l.filter (fun x => x.1 == "math/bits.deBruijn64tab") = [("math/bits.deBruijn64tab", Rows.laid_math_bits_deBruijn64tab)]) : M.tz W := by
  have h1 := M.laid_one h hf rfl
  rw [Tryz.tab64] at h1
  have h2 := Lib.tabIs_of_head (show Tryz.prog.globalNamed "math/bits.deBruijn64tab" = some 6 by kernel_rfl) (by kernel_rfl) Tryz.underlying246 Tryz.underlying5 (by kernel_rfl) (by kernel_rfl) h1
  have h3 := Lib.TabIs.cell h2 (show Tryz.prog.globalNamed "math/bits.deBruijn64tab" = some 6 by kernel_rfl) 7 (of_decide_eq_true (by kernel_rfl))
  rw [show (M.ints Rows.laid_math_bits_deBruijn64tab).getD 7 0 = 3 by kernel_rfl] at h3
  exact h3
end Go.Proofs.YtephjmlcbpfnaaaGreatDoor
