/-
  DERIVED. GIVEN WITH THE SEED: THE CARDS: each row of YtbmbcfnlpbbapagDoorRows.lean that lists a variable, with what it lists TIED to the program's text (the seventh form; the later family's looks); each row that meets fmt, with fmt's text TOLD by the authors' own Lean function (tested against real Go, not proved from fmt's source: count such statements apart). THE CARD IS WHAT COUNTS. Prove the row's statement (the work); the ties are given (YtbmbcfnlpbbapagDoorTie.lean); close each card by the builder's one call (the guide's Derived/Test/ToyasCard.lean, 'card_holds'). Laid BY PROGRAM, IN A SANDBOX (cutbox-door.mjs). By AI agents, Wed Nov 11 2026. No macro, syntax, notation, axiom, sorry.
-/
import Derived.Test.YtbmbcfnlpbbapagDoorRows
import GoSem.ClaimSeven
namespace Go.Proofs.YtbmbcfnlpbbapagDoor
namespace Rows

/-- THE TIED CARD OF 'laws.FnExactPathRight'. -/
def fnExactPathRightCard : Claim7 := { stood := { row := fnExactPathRightRow, standIns := [], harness := (true, "9fe68f6b43b2bd99a66e1ad987b1c1d4804773c1ca8742a7807ac63ee23b667c"), looks := false }, kinds := [], alts := [], laidByText := true, laidKinds := [.data, .pinned], laidTests := true, laidLooks := .later }
def FnExactPathRightCardSaid : Prop := Claim7.holds Tryd.pinned (.plain (OpenSpec.ofChange fnExactPathRightSpec)) fnExactPathRightCard

/-- THE TIED CARD OF 'laws.FnExactTreeRight'. -/
def fnExactTreeRightCard : Claim7 := { stood := { row := fnExactTreeRightRow, standIns := [], harness := (true, "9fe68f6b43b2bd99a66e1ad987b1c1d4804773c1ca8742a7807ac63ee23b667c"), looks := false }, kinds := [], alts := [], laidByText := true, laidKinds := [.data, .pinned], laidTests := true, laidLooks := .later }
def FnExactTreeRightCardSaid : Prop := Claim7.holds Tryd.pinned (.plain (OpenSpec.ofChange fnExactTreeRightSpec)) fnExactTreeRightCard

/-- THE TIED CARD OF 'laws.FnExactTreeFind'. -/
def fnExactTreeFindCard : Claim7 := { stood := { row := fnExactTreeFindRow, standIns := [], harness := (true, "9fe68f6b43b2bd99a66e1ad987b1c1d4804773c1ca8742a7807ac63ee23b667c"), looks := false }, kinds := [], alts := [], laidByText := true, laidKinds := [.data, .pinned], laidTests := true, laidLooks := .later }
def FnExactTreeFindCardSaid : Prop := Claim7.holds Tryd.pinned (.plain (OpenSpec.ofChange fnExactTreeFindSpec)) fnExactTreeFindCard

/-- THE TIED CARD OF 'laws.FnExactTreeDrop'. -/
def fnExactTreeDropCard : Claim7 := { stood := { row := fnExactTreeDropRow, standIns := [], harness := (true, "9fe68f6b43b2bd99a66e1ad987b1c1d4804773c1ca8742a7807ac63ee23b667c"), looks := false }, kinds := [], alts := [], laidByText := true, laidKinds := [.data, .pinned], laidTests := true, laidLooks := .later }
def FnExactTreeDropCardSaid : Prop := Claim7.holds Tryd.pinned (.plain (OpenSpec.ofChange fnExactTreeDropSpec)) fnExactTreeDropCard

/-- THE SECOND FORM's CARD OF 'laws.FnExactPathRight'. -/
def fnExactPathRightUptoCard : Claim7 := { stood := { row := fnExactPathRightUptoRow, standIns := [], harness := (true, "9fe68f6b43b2bd99a66e1ad987b1c1d4804773c1ca8742a7807ac63ee23b667c"), looks := false }, kinds := [], alts := [], laidByText := true, laidKinds := [.data, .pinned], laidTests := true, laidLooks := .later }
def FnExactPathRightUptoCardSaid : Prop := Claim7.holds Tryd.pinned (.plain (OpenSpec.upto fnExactPathRightSpec)) fnExactPathRightUptoCard

/-- THE SECOND FORM's CARD OF 'laws.FnExactTreeRight'. -/
def fnExactTreeRightUptoCard : Claim7 := { stood := { row := fnExactTreeRightUptoRow, standIns := [], harness := (true, "9fe68f6b43b2bd99a66e1ad987b1c1d4804773c1ca8742a7807ac63ee23b667c"), looks := false }, kinds := [], alts := [], laidByText := true, laidKinds := [.data, .pinned], laidTests := true, laidLooks := .later }
def FnExactTreeRightUptoCardSaid : Prop := Claim7.holds Tryd.pinned (.plain (OpenSpec.upto fnExactTreeRightSpec)) fnExactTreeRightUptoCard

/-- THE SECOND FORM's CARD OF 'laws.FnExactTreeFind'. -/
def fnExactTreeFindUptoCard : Claim7 := { stood := { row := fnExactTreeFindUptoRow, standIns := [], harness := (true, "9fe68f6b43b2bd99a66e1ad987b1c1d4804773c1ca8742a7807ac63ee23b667c"), looks := false }, kinds := [], alts := [], laidByText := true, laidKinds := [.data, .pinned], laidTests := true, laidLooks := .later }
def FnExactTreeFindUptoCardSaid : Prop := Claim7.holds Tryd.pinned (.plain (OpenSpec.upto fnExactTreeFindSpec)) fnExactTreeFindUptoCard

/-- THE SECOND FORM's CARD OF 'laws.FnExactTreeDrop'. -/
def fnExactTreeDropUptoCard : Claim7 := { stood := { row := fnExactTreeDropUptoRow, standIns := [], harness := (true, "9fe68f6b43b2bd99a66e1ad987b1c1d4804773c1ca8742a7807ac63ee23b667c"), looks := false }, kinds := [], alts := [], laidByText := true, laidKinds := [.data, .pinned], laidTests := true, laidLooks := .later }
def FnExactTreeDropUptoCardSaid : Prop := Claim7.holds Tryd.pinned (.plain (OpenSpec.upto fnExactTreeDropSpec)) fnExactTreeDropUptoCard
end Rows
end Go.Proofs.YtbmbcfnlpbbapagDoor
