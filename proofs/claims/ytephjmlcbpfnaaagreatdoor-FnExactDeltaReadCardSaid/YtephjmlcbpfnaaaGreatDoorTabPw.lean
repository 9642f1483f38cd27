/-
  Out of what the listed tables hold: the library's powers of ten.
-/
import Derived.Test.YtephjmlcbpfnaaaGreatDoorTabTz
import Derived.Test.YtephjmlcbpfnaaaGreatDoorPart19
namespace Go.Proofs.YtephjmlcbpfnaaaGreatDoor
open Go.RowKit

theorem Tryz.tabPw : (Rows.laid_internal_strconv_uint64pow10 : DataW Unit) = Lib.tabData .u64 Lib.pow10Tab := by kernel_rfl
theorem M.pw_laid {l : List (String × DataW Unit)} {W : World} (h : laidMetH Tryz.prog l W) (hf : l.filter (fun x => x.1 == "internal/strconv.uint64pow10") = [("internal/strconv.uint64pow10", Rows.laid_internal_strconv_uint64pow10)]) : M.pw W := by
  have h1 := M.laid_one h hf rfl
  rw [Tryz.tabPw] at h1
  exact Lib.tabIs_of_head (show Tryz.prog.globalNamed "internal/strconv.uint64pow10" = some 2 by kernel_rfl) (by kernel_rfl) Tryz.underlying236 Tryz.underlying93 (by kernel_rfl) (by kernel_rfl) h1
end Go.Proofs.YtephjmlcbpfnaaaGreatDoor
