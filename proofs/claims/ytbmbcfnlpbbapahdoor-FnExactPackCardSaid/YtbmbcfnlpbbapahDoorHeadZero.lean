/-
  An array of 512 bytes 0.
-/
import Derived.Test.YtbmbcfnlpbbapahDoorArrMath
namespace Go.Proofs.YtbmbcfnlpbbapahDoor
open Go.RowKit
/-- The cells of 512 bytes 0. -/
def M.zer : Array Value := ((List.replicate 512 (0 : UInt8)).map M.u8).toArray
theorem Tryd.infoH : (Tryd.prog.info? 37).map (fun i => (i.zero, i.size)) = some (some (.agg M.zer), 512) := by kernel_rfl
theorem Tryd.infoU : (Tryd.prog.info? 5).map (fun i => (i.zero, i.size)) = some (some (.int .u8 0), 1) := by kernel_rfl
theorem M.sizeU : ∀ w, (Go.sizeOf 5).run Tryd.prog w = .ok 1 w := by
  intro w
  have h := Tryd.infoU
  cases hq : Tryd.prog.info? 5 with
  | none => simp [hq] at h
  | some i => simp [hq] at h; simp [Go.sizeOf, typeInfo, hq, h.2]
end Go.Proofs.YtbmbcfnlpbbapahDoor
