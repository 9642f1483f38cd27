/-
  DERIVED. GIVEN WITH THE SEED: THE CARDS: each row of YtephjmlcbpfnaaaGreatDoorRows.lean that lists a variable, with what it lists TIED to the program's text (the seventh form; the later family's looks); each row that meets fmt, with fmt's text TOLD by the authors' own Lean function (tested against real Go, not proved from fmt's source: count such statements apart). THE CARD IS WHAT COUNTS. Prove the row's statement (the work); the ties are given (YtephjmlcbpfnaaaGreatDoorTie.lean); close each card by the builder's one call (the guide's Derived/Test/ToyasCard.lean, 'card_holds'). Laid BY PROGRAM, IN A SANDBOX (cutbox-door.mjs). By AI agents, Wed Nov 11 2026. No macro, syntax, notation, axiom, sorry.
-/
import Derived.Test.YtephjmlcbpfnaaaGreatDoorRows
import GoSem.ClaimSeven
namespace Go.Proofs.YtephjmlcbpfnaaaGreatDoor
namespace Rows

/-- THE TIED CARD OF 'laws.FnExactDeltaThen'. -/
def fnExactDeltaThenCard : Claim7 := { stood := { row := fnExactDeltaThenRow, standIns := [], harness := (true, "f40058dbaff3abf4b97fdb97ba25f3f5fdccd2ecc8de900b797ebd84d65690c3"), looks := true }, kinds := [], alts := [], laidByText := true, laidKinds := [.data, .pinned], laidTests := true, laidLooks := .later }
def FnExactDeltaThenCardSaid : Prop := Claim7.holds Tryz.pinned (.plain (OpenSpec.ofChange fnExactDeltaThenSpec)) fnExactDeltaThenCard

/-- THE TIED CARD OF 'laws.FnExactDeltaBytes'. -/
def fnExactDeltaBytesCard : Claim7 := { stood := { row := fnExactDeltaBytesRow, standIns := [], harness := (true, "f40058dbaff3abf4b97fdb97ba25f3f5fdccd2ecc8de900b797ebd84d65690c3"), looks := true }, kinds := [], alts := [], laidByText := true, laidKinds := [.data, .data, .data, .data, .pinned], laidTests := true, laidLooks := .later }
def FnExactDeltaBytesCardSaid : Prop := Claim7.holds Tryz.pinned (.plain (OpenSpec.ofChange fnExactDeltaBytesSpec)) fnExactDeltaBytesCard

/-- THE TIED CARD OF 'laws.FnExactDeltaRead'. -/
def fnExactDeltaReadCard : Claim7 := { stood := { row := fnExactDeltaReadRow, standIns := [], harness := (true, "f40058dbaff3abf4b97fdb97ba25f3f5fdccd2ecc8de900b797ebd84d65690c3"), looks := true }, kinds := [], alts := [], laidByText := true, laidKinds := [.data, .data, .data, .data, .handle, .pinned], laidTests := true, laidLooks := .later }
def FnExactDeltaReadCardSaid : Prop := Claim7.holds Tryz.pinned (.plain (OpenSpec.ofChange fnExactDeltaReadSpec)) fnExactDeltaReadCard

/-- THE SECOND FORM's CARD OF 'laws.FnExactDeltaThen'. -/
def fnExactDeltaThenUptoCard : Claim7 := { stood := { row := fnExactDeltaThenUptoRow, standIns := [], harness := (true, "f40058dbaff3abf4b97fdb97ba25f3f5fdccd2ecc8de900b797ebd84d65690c3"), looks := true }, kinds := [], alts := [], laidByText := true, laidKinds := [.data, .pinned], laidTests := true, laidLooks := .later }
def FnExactDeltaThenUptoCardSaid : Prop := Claim7.holds Tryz.pinned (.plain (OpenSpec.upto fnExactDeltaThenSpec)) fnExactDeltaThenUptoCard

/-- THE SECOND FORM's CARD OF 'laws.FnExactDeltaBytes'. -/
def fnExactDeltaBytesUptoCard : Claim7 := { stood := { row := fnExactDeltaBytesUptoRow, standIns := [], harness := (true, "f40058dbaff3abf4b97fdb97ba25f3f5fdccd2ecc8de900b797ebd84d65690c3"), looks := true }, kinds := [], alts := [], laidByText := true, laidKinds := [.data, .data, .data, .data, .pinned], laidTests := true, laidLooks := .later }
def FnExactDeltaBytesUptoCardSaid : Prop := Claim7.holds Tryz.pinned (.plain (OpenSpec.upto fnExactDeltaBytesSpec)) fnExactDeltaBytesUptoCard

/-- THE SECOND FORM's CARD OF 'laws.FnExactDeltaRead'. -/
def fnExactDeltaReadUptoCard : Claim7 := { stood := { row := fnExactDeltaReadUptoRow, standIns := [], harness := (true, "f40058dbaff3abf4b97fdb97ba25f3f5fdccd2ecc8de900b797ebd84d65690c3"), looks := true }, kinds := [], alts := [], laidByText := true, laidKinds := [.data, .data, .data, .data, .handle, .pinned], laidTests := true, laidLooks := .later }
def FnExactDeltaReadUptoCardSaid : Prop := Claim7.holds Tryz.pinned (.plain (OpenSpec.upto fnExactDeltaReadSpec)) fnExactDeltaReadUptoCard
end Rows
end Go.Proofs.YtephjmlcbpfnaaaGreatDoor
