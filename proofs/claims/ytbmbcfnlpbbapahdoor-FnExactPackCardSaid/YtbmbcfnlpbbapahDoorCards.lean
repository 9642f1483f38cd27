/-
  DERIVED. GIVEN WITH THE SEED: THE CARDS: each row of YtbmbcfnlpbbapahDoorRows.lean that lists a variable, with what it lists TIED to the program's text (the seventh form; the later family's looks); each row that meets fmt, with fmt's text TOLD by the authors' own Lean function (tested against real Go, not proved from fmt's source: count such statements apart). THE CARD IS WHAT COUNTS. Prove the row's statement (the work); the ties are given (YtbmbcfnlpbbapahDoorTie.lean); close each card by the builder's one call (the guide's Derived/Test/ToyasCard.lean, 'card_holds'). Laid BY PROGRAM, IN A SANDBOX (cutbox-door.mjs). By AI agents, Wed Nov 11 2026. No macro, syntax, notation, axiom, sorry.
-/
import Derived.Test.YtbmbcfnlpbbapahDoorRows
import GoSem.ClaimSeven
namespace Go.Proofs.YtbmbcfnlpbbapahDoor
namespace Rows

/-- THE TIED CARD OF 'laws.FnExactOctal'. -/
def fnExactOctalCard : Claim7 := { stood := { row := fnExactOctalRow, standIns := [], harness := (true, "5c762ddaed2438c48f1d0275e436bb3a73063034162b397e4604a693ab09fd7e"), looks := false }, kinds := [], alts := [], laidByText := true, laidKinds := [.data, .data, .data], laidTests := true, laidLooks := .later }
def FnExactOctalCardSaid : Prop := Claim7.holds Tryd.pinned (.plain (OpenSpec.ofChange fnExactOctalSpec)) fnExactOctalCard

/-- THE TIED CARD OF 'laws.FnExactHeaderOf'. -/
def fnExactHeaderOfCard : Claim7 := { stood := { row := fnExactHeaderOfRow, standIns := [], harness := (true, "5c762ddaed2438c48f1d0275e436bb3a73063034162b397e4604a693ab09fd7e"), looks := false }, kinds := [], alts := [], laidByText := true, laidKinds := [.data, .data, .data], laidTests := true, laidLooks := .later }
def FnExactHeaderOfCardSaid : Prop := Claim7.holds Tryd.pinned (.plain (OpenSpec.ofChange fnExactHeaderOfSpec)) fnExactHeaderOfCard

/-- THE TIED CARD OF 'laws.FnExactPack'. -/
def fnExactPackCard : Claim7 := { stood := { row := fnExactPackRow, standIns := [], harness := (true, "5c762ddaed2438c48f1d0275e436bb3a73063034162b397e4604a693ab09fd7e"), looks := false }, kinds := [], alts := [], laidByText := true, laidKinds := [.data, .data, .data, .data, .pinned], laidTests := true, laidLooks := .later }
def FnExactPackCardSaid : Prop := Claim7.holds Tryd.pinned (.plain (OpenSpec.ofChange fnExactPackSpec)) fnExactPackCard

/-- THE SECOND FORM's CARD OF 'laws.FnExactOctal'. -/
def fnExactOctalUptoCard : Claim7 := { stood := { row := fnExactOctalUptoRow, standIns := [], harness := (true, "5c762ddaed2438c48f1d0275e436bb3a73063034162b397e4604a693ab09fd7e"), looks := false }, kinds := [], alts := [], laidByText := true, laidKinds := [.data, .data, .data], laidTests := true, laidLooks := .later }
def FnExactOctalUptoCardSaid : Prop := Claim7.holds Tryd.pinned (.plain (OpenSpec.upto fnExactOctalSpec)) fnExactOctalUptoCard

/-- THE SECOND FORM's CARD OF 'laws.FnExactHeaderOf'. -/
def fnExactHeaderOfUptoCard : Claim7 := { stood := { row := fnExactHeaderOfUptoRow, standIns := [], harness := (true, "5c762ddaed2438c48f1d0275e436bb3a73063034162b397e4604a693ab09fd7e"), looks := false }, kinds := [], alts := [], laidByText := true, laidKinds := [.data, .data, .data], laidTests := true, laidLooks := .later }
def FnExactHeaderOfUptoCardSaid : Prop := Claim7.holds Tryd.pinned (.plain (OpenSpec.upto fnExactHeaderOfSpec)) fnExactHeaderOfUptoCard

/-- THE SECOND FORM's CARD OF 'laws.FnExactPack'. -/
def fnExactPackUptoCard : Claim7 := { stood := { row := fnExactPackUptoRow, standIns := [], harness := (true, "5c762ddaed2438c48f1d0275e436bb3a73063034162b397e4604a693ab09fd7e"), looks := false }, kinds := [], alts := [], laidByText := true, laidKinds := [.data, .data, .data, .data, .pinned], laidTests := true, laidLooks := .later }
def FnExactPackUptoCardSaid : Prop := Claim7.holds Tryd.pinned (.plain (OpenSpec.upto fnExactPackSpec)) fnExactPackUptoCard
end Rows
end Go.Proofs.YtbmbcfnlpbbapahDoor
