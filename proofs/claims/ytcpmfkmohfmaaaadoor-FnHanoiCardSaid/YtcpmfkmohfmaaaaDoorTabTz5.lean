/-
  Out of what the listed tables hold: the cells that numbers below 32 ask for.
-/
import Derived.Test.YtcpmfkmohfmaaaaDoorILevel
import Derived.Lib.LaidTab
import Derived.LaidSub
namespace Go.Proofs.YtcpmfkmohfmaaaaDoor
open Go.RowKit

def M.ints5 : DataW Unit → List Int
  | .agg l => l.map fun | .lit (.int _ z) => z | _ => 0
  | _ => []
theorem M.laid_one5 {P : Program} {l : List (String × DataW Unit)} {n : String} {d : DataW Unit} {W : World} (h : laidMetH P l W) (hf : l.filter (fun x => x.1 == n) = [(n, d)]) (hd : d.handleName?.isNone = true) : laidMet P [(n, d)] W := by
  have := laidMetH.filter (fun x => x.1 == n) h
  rw [hf] at this
  unfold laidMetH at this
  have e : ([(n, d)].filter fun x : String × DataW Unit => x.2.handleName?.isSome) = [] := by
    cases hq : d.handleName? with
    | none => simp [hq]
    | some x => rw [hq] at hd; cases hd
  rw [e] at this
  exact this
theorem Tryd.tab64x : (Rows.laid_math_bits_deBruijn64tab : DataW Unit) = Lib.tabData .u8 (M.ints5 Rows.laid_math_bits_deBruijn64tab) := by kernel_rfl
theorem M.tz5_laid {l : List (String × DataW Unit)} {W : World} (h : laidMetH Tryd.prog l W) (hf : l.filter (fun x => x.1 == "math/bits.deBruijn64tab") = [("math/bits.deBruijn64tab", Rows.laid_math_bits_deBruijn64tab)]) : M.tz5 W := by
  have h1 := M.laid_one5 h hf rfl
  rw [Tryd.tab64x] at h1
  have h2 := Lib.tabIs_of_head (show Tryd.prog.globalNamed "math/bits.deBruijn64tab" = some 0 by kernel_rfl) (by kernel_rfl) Tryd.underlying41 Tryd.underlying5 (by kernel_rfl) (by kernel_rfl) h1
  have h3 := fun i (hi : i < (M.ints5 Rows.laid_math_bits_deBruijn64tab).length) => Lib.TabIs.cell h2 (show Tryd.prog.globalNamed "math/bits.deBruijn64tab" = some 0 by kernel_rfl) i hi
  refine ⟨?_, ?_, ?_, ?_, ?_⟩
  · have := h3 0 (of_decide_eq_true (by kernel_rfl))
    rw [show (M.ints5 Rows.laid_math_bits_deBruijn64tab).getD 0 0 = 0 by kernel_rfl] at this
    exact this
  · have := h3 1 (of_decide_eq_true (by kernel_rfl))
    rw [show (M.ints5 Rows.laid_math_bits_deBruijn64tab).getD 1 0 = 1 by kernel_rfl] at this
    exact this
  · have := h3 3 (of_decide_eq_true (by kernel_rfl))
    rw [show (M.ints5 Rows.laid_math_bits_deBruijn64tab).getD 3 0 = 2 by kernel_rfl] at this
    exact this
  · have := h3 7 (of_decide_eq_true (by kernel_rfl))
    rw [show (M.ints5 Rows.laid_math_bits_deBruijn64tab).getD 7 0 = 3 by kernel_rfl] at this
    exact this
  · have := h3 15 (of_decide_eq_true (by kernel_rfl))
    rw [show (M.ints5 Rows.laid_math_bits_deBruijn64tab).getD 15 0 = 4 by kernel_rfl] at this
    exact this
end Go.Proofs.YtcpmfkmohfmaaaaDoor
