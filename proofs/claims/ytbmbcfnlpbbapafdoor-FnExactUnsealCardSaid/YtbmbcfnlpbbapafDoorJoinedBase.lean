/-
  Facts on bytes, for buffers of them.
-/
import Derived.Test.YtbmbcfnlpbbapafDoorRows
import Derived.Test.YtbmbcfnlpbbapafDoorJoined
namespace Go.Proofs.YtbmbcfnlpbbapafDoor
open Go.RowKit

theorem Tryd.infoB : (Tryd.prog.info? 5).map (fun i => (i.zero, i.size, i.bytes)) = some (some (.int .u8 0), 1, 1) := by kernel_rfl
theorem Tryd.sizeB (w : World) : (Go.sizeOf 5).run Tryd.prog w = .ok 1 w := by kernel_rfl
end Go.Proofs.YtbmbcfnlpbbapafDoor
