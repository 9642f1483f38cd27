/-
  Facts on bytes, for buffers of them.
-/
import Derived.Test.YtcoppfmigpdglabRows
import Derived.Test.YtcoppfmigpdglabJoined
namespace Go.Proofs.Ytcoppfmigpdglab
open Go.RowKit

theorem Try.infoB : (Try.prog.info? 5).map (fun i => (i.zero, i.size, i.bytes)) = some (some (.int .u8 0), 1, 1) := by kernel_rfl
theorem Try.sizeB (w : World) : (Go.sizeOf 5).run Try.prog w = .ok 1 w := by kernel_rfl
end Go.Proofs.Ytcoppfmigpdglab
