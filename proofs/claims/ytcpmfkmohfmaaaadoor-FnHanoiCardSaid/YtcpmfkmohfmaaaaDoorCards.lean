/-
  DERIVED. GIVEN WITH THE SEED: THE CARDS: each row of YtcpmfkmohfmaaaaDoorRows.lean that lists a variable, with what it lists TIED to the program's text (the seventh form; the later family's looks); each row that meets fmt, with fmt's text TOLD by the authors' own Lean function (tested against real Go, not proved from fmt's source: count such statements apart). THE CARD IS WHAT COUNTS. Prove the row's statement (the work); the ties are given (YtcpmfkmohfmaaaaDoorTie.lean); close each card by the builder's one call (the guide's Derived/Test/ToyasCard.lean, 'card_holds'). Laid BY PROGRAM, IN A SANDBOX (cutbox-door.mjs). By AI agents, Wed Nov 11 2026. No macro, syntax, notation, axiom, sorry.
-/
import Derived.Test.YtcpmfkmohfmaaaaDoorRows
import GoSem.ClaimSeven
namespace Go.Proofs.YtcpmfkmohfmaaaaDoor
namespace Rows

/-- THE TIED CARD OF 'laws.FnHanoi'. -/
def fnHanoiCard : Claim7 := { stood := { row := fnHanoiRow, standIns := [], harness := (true, "426392a414881dddd71df669392e1b244f871077bad86cda33a02a8681338fee"), looks := false }, kinds := [], alts := [], laidByText := true, laidKinds := [.data], laidTests := true, laidLooks := .later }
def FnHanoiCardSaid : Prop := Claim7.holds Tryd.pinned (.plain (OpenSpec.ofChange fnHanoiSpec)) fnHanoiCard

/-- THE TIED CARD OF 'laws.FnExactLevelAt'. -/
def fnExactLevelAtCard : Claim7 := { stood := { row := fnExactLevelAtRow, standIns := [], harness := (true, "426392a414881dddd71df669392e1b244f871077bad86cda33a02a8681338fee"), looks := false }, kinds := [], alts := [], laidByText := true, laidKinds := [.data], laidTests := true, laidLooks := .later }
def FnExactLevelAtCardSaid : Prop := Claim7.holds Tryd.pinned (.plain (OpenSpec.ofChange fnExactLevelAtSpec)) fnExactLevelAtCard

/-- THE SECOND FORM's CARD OF 'laws.FnHanoi'. -/
def fnHanoiUptoCard : Claim7 := { stood := { row := fnHanoiUptoRow, standIns := [], harness := (true, "426392a414881dddd71df669392e1b244f871077bad86cda33a02a8681338fee"), looks := false }, kinds := [], alts := [], laidByText := true, laidKinds := [.data], laidTests := true, laidLooks := .later }
def FnHanoiUptoCardSaid : Prop := Claim7.holds Tryd.pinned (.plain (OpenSpec.upto fnHanoiSpec)) fnHanoiUptoCard

/-- THE SECOND FORM's CARD OF 'laws.FnExactLevelAt'. -/
def fnExactLevelAtUptoCard : Claim7 := { stood := { row := fnExactLevelAtUptoRow, standIns := [], harness := (true, "426392a414881dddd71df669392e1b244f871077bad86cda33a02a8681338fee"), looks := false }, kinds := [], alts := [], laidByText := true, laidKinds := [.data], laidTests := true, laidLooks := .later }
def FnExactLevelAtUptoCardSaid : Prop := Claim7.holds Tryd.pinned (.plain (OpenSpec.upto fnExactLevelAtSpec)) fnExactLevelAtUptoCard
end Rows
end Go.Proofs.YtcpmfkmohfmaaaaDoor
