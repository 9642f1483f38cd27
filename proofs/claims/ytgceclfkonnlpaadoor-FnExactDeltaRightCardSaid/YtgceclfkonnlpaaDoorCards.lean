/-
  DERIVED. GIVEN WITH THE SEED: THE CARDS: each row of YtgceclfkonnlpaaDoorRows.lean that lists a variable, with what it lists TIED to the program's text (the seventh form; the later family's looks); each row that meets fmt, with fmt's text TOLD by the authors' own Lean function (tested against real Go, not proved from fmt's source: count such statements apart). THE CARD IS WHAT COUNTS. Prove the row's statement (the work); the ties are given (YtgceclfkonnlpaaDoorTie.lean); close each card by the builder's one call (the guide's Derived/Test/ToyasCard.lean, 'card_holds'). Laid BY PROGRAM, IN A SANDBOX (cutbox-door.mjs). By AI agents, Wed Nov 11 2026. No macro, syntax, notation, axiom, sorry.
-/
import Derived.Test.YtgceclfkonnlpaaDoorRows
import GoSem.ClaimSeven
namespace Go.Proofs.YtgceclfkonnlpaaDoor
namespace Rows

/-- THE TIED CARD OF 'laws.FnExactDeltaRight'. -/
def fnExactDeltaRightCard : Claim7 := { stood := { row := fnExactDeltaRightRow, standIns := [], harness := (true, "172315d6118883c477772a9f2d12eba14e74c98c2c490e4e5da806dc95b90d0d"), looks := false }, kinds := [], alts := [], laidByText := true, laidKinds := [.data, .pinned], laidTests := true, laidLooks := .later }
def FnExactDeltaRightCardSaid : Prop := Claim7.holds Tryd.pinned (.plain (OpenSpec.ofChange fnExactDeltaRightSpec)) fnExactDeltaRightCard

/-- THE TIED CARD OF 'laws.FnExactDeltaOf'. -/
def fnExactDeltaOfCard : Claim7 := { stood := { row := fnExactDeltaOfRow, standIns := [], harness := (true, "172315d6118883c477772a9f2d12eba14e74c98c2c490e4e5da806dc95b90d0d"), looks := false }, kinds := [], alts := [], laidByText := true, laidKinds := [.data, .pinned], laidTests := true, laidLooks := .later }
def FnExactDeltaOfCardSaid : Prop := Claim7.holds Tryd.pinned (.plain (OpenSpec.ofChange fnExactDeltaOfSpec)) fnExactDeltaOfCard

/-- THE TIED CARD OF 'laws.FnExactDeltaApply'. -/
def fnExactDeltaApplyCard : Claim7 := { stood := { row := fnExactDeltaApplyRow, standIns := [], harness := (true, "172315d6118883c477772a9f2d12eba14e74c98c2c490e4e5da806dc95b90d0d"), looks := false }, kinds := [], alts := [], laidByText := true, laidKinds := [.data, .pinned], laidTests := true, laidLooks := .later }
def FnExactDeltaApplyCardSaid : Prop := Claim7.holds Tryd.pinned (.plain (OpenSpec.ofChange fnExactDeltaApplySpec)) fnExactDeltaApplyCard

/-- THE SECOND FORM's CARD OF 'laws.FnExactDeltaRight'. -/
def fnExactDeltaRightUptoCard : Claim7 := { stood := { row := fnExactDeltaRightUptoRow, standIns := [], harness := (true, "172315d6118883c477772a9f2d12eba14e74c98c2c490e4e5da806dc95b90d0d"), looks := false }, kinds := [], alts := [], laidByText := true, laidKinds := [.data, .pinned], laidTests := true, laidLooks := .later }
def FnExactDeltaRightUptoCardSaid : Prop := Claim7.holds Tryd.pinned (.plain (OpenSpec.upto fnExactDeltaRightSpec)) fnExactDeltaRightUptoCard

/-- THE SECOND FORM's CARD OF 'laws.FnExactDeltaOf'. -/
def fnExactDeltaOfUptoCard : Claim7 := { stood := { row := fnExactDeltaOfUptoRow, standIns := [], harness := (true, "172315d6118883c477772a9f2d12eba14e74c98c2c490e4e5da806dc95b90d0d"), looks := false }, kinds := [], alts := [], laidByText := true, laidKinds := [.data, .pinned], laidTests := true, laidLooks := .later }
def FnExactDeltaOfUptoCardSaid : Prop := Claim7.holds Tryd.pinned (.plain (OpenSpec.upto fnExactDeltaOfSpec)) fnExactDeltaOfUptoCard

/-- THE SECOND FORM's CARD OF 'laws.FnExactDeltaApply'. -/
def fnExactDeltaApplyUptoCard : Claim7 := { stood := { row := fnExactDeltaApplyUptoRow, standIns := [], harness := (true, "172315d6118883c477772a9f2d12eba14e74c98c2c490e4e5da806dc95b90d0d"), looks := false }, kinds := [], alts := [], laidByText := true, laidKinds := [.data, .pinned], laidTests := true, laidLooks := .later }
def FnExactDeltaApplyUptoCardSaid : Prop := Claim7.holds Tryd.pinned (.plain (OpenSpec.upto fnExactDeltaApplySpec)) fnExactDeltaApplyUptoCard
end Rows
end Go.Proofs.YtgceclfkonnlpaaDoor
