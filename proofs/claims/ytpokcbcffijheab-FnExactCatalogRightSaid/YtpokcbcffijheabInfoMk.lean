/-
  What the model tells of the type of marks.
-/
import Derived.Test.YtpokcbcffijheabRows
import Derived.WalkKit
namespace Go.Proofs.Ytpokcbcffijheab
open Go.RowKit

theorem Try.infoMk : (Try.prog.info? 78).map (fun i => (i.zero, i.size, i.bytes)) = some (some (.agg #[.int .i64 0, .int .i64 0, .int .i64 0]), 3, 24) := by kernel_rfl
end Go.Proofs.Ytpokcbcffijheab
