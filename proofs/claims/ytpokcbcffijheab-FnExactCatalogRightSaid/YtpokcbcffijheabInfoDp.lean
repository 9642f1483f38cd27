/-
  What the model tells of the type of dumps.
-/
import Derived.Test.YtpokcbcffijheabRows
import Derived.WalkKit
namespace Go.Proofs.Ytpokcbcffijheab
open Go.RowKit

theorem Try.infoDp : (Try.prog.info? 36).map (fun i => (i.zero, i.size, i.bytes)) = some (some (.agg #[.int .i64 0, .string ⟨#[]⟩, .int .i64 0, .int .i64 0, .int .i64 0, .int .i64 0, .int .i64 0, .int .i64 0, .slice none 0 0]), 9, 96) := by kernel_rfl
end Go.Proofs.Ytpokcbcffijheab
