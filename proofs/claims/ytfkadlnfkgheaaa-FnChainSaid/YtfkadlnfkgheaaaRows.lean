/-
  No cell of these rows narrows 'for every input' (looked for: loops, veiled, ifaces, maps, wideKeys, modest, calm, conditions, laid).
  DERIVED. THE GIVEN ROWS OF THIS SEAT. 5 by the template 'for every input the law returns true; each argument reads behind the call as it read before'; 0 by the template 'total and deterministic' (their statements: YtfkadlnfkgheaaaTotals.lean).
  GIVEN WITH THE SEED: the statements are not yours to turn. If you find one false, say at which input.
  Laid BY PROGRAM, IN A SANDBOX (cutbox-rows.mjs): the forced cells as the released guide's own fill.sh prints them over the translation 28557aba0c807462… (all of the seat's roots in one cut). By AI agents, Wed Nov 11 2026. No macro, syntax, notation, axiom, sorry.
-/
import Derived.Test.YtfkadlnfkgheaaaChecked
import GoSem.Claim
import GoSem.ClaimJoined
import GoSem.ClaimMapViews
import Derived.JoinedTies
import Derived.KernelRfl
namespace Go.Proofs.Ytfkadlnfkgheaaa
/- THE CELL 'sum', in the pinned program and in every row, IS THE sha256 OF THE DUMP (.gsa) THAT YtfkadlnfkgheaaaProg.lean LOADS. Nothing in Lean hashes anything: it is a label: what it is worth is what the hold of that sum in a sandbox is worth. -/
noncomputable def Try.pinned : Pinned := { name := "ytfkadlnfkgheaaa", sum := "28557aba0c807462ec83838f3278bdabbdabb1164b4fe77ddc9134875f89f05d", checked := Try.checked }
namespace Rows
def none {H : Type} : Left H := { results := [], args := [] }

/-- 'laws.FnChain': WHATEVER THE INPUT: true; the input reads as it did. -/
def fnChainSpec : ChangeSpec := { name := "fnChain", fn := fun _ => fun
  | [d1, d2] => { results := [.lit (.bool true)], args := [d1, d2] }
  | _ => none }
def fnChainRow : OpenClaim := { program := "ytfkadlnfkgheaaa", sum := "28557aba0c807462ec83838f3278bdabbdabb1164b4fe77ddc9134875f89f05d", func := "loop.example/g00310/laws.FnChain", spec := "fnChain", unfollowed := true, recurses := true, apart := false }
def FnChainSaid : Prop := fnChainRow.holds Try.pinned (OpenSpec.ofChange fnChainSpec)

/-- ITS FALSE NEIGHBOUR: 'it returns false'. Refute it at one input. -/
def fnChainWrong : ChangeSpec := { name := "fnChain", fn := fun _ => fun
  | [d1, d2] => { results := [.lit (.bool false)], args := [d1, d2] }
  | _ => none }
def FnChainWrongFalsely : Prop := fnChainRow.holds Try.pinned (OpenSpec.ofChange fnChainWrong)

/-- 'laws.FnExactMarksRight': WHATEVER THE INPUT: true; the input reads as it did. -/
def fnExactMarksRightSpec : ChangeSpec := { name := "fnExactMarksRight", fn := fun _ => fun
  | [d] => { results := [.lit (.bool true)], args := [d] }
  | _ => none }
def fnExactMarksRightRow : OpenClaim := { program := "ytfkadlnfkgheaaa", sum := "28557aba0c807462ec83838f3278bdabbdabb1164b4fe77ddc9134875f89f05d", func := "loop.example/g00310/laws.FnExactMarksRight", spec := "fnExactMarksRight", unfollowed := true, recurses := true, apart := false }
def FnExactMarksRightSaid : Prop := fnExactMarksRightRow.holds Try.pinned (OpenSpec.ofChange fnExactMarksRightSpec)

/-- ITS FALSE NEIGHBOUR: 'it returns false'. Refute it at one input. -/
def fnExactMarksRightWrong : ChangeSpec := { name := "fnExactMarksRight", fn := fun _ => fun
  | [d] => { results := [.lit (.bool false)], args := [d] }
  | _ => none }
def FnExactMarksRightWrongFalsely : Prop := fnExactMarksRightRow.holds Try.pinned (OpenSpec.ofChange fnExactMarksRightWrong)

/-- 'laws.FnExactBaseFor': WHATEVER THE INPUT: true; the input reads as it did. -/
def fnExactBaseForSpec : ChangeSpec := { name := "fnExactBaseFor", fn := fun _ => fun
  | [d1, d2] => { results := [.lit (.bool true)], args := [d1, d2] }
  | _ => none }
def fnExactBaseForRow : OpenClaim := { program := "ytfkadlnfkgheaaa", sum := "28557aba0c807462ec83838f3278bdabbdabb1164b4fe77ddc9134875f89f05d", func := "loop.example/g00310/laws.FnExactBaseFor", spec := "fnExactBaseFor", unfollowed := true, recurses := true, apart := false }
def FnExactBaseForSaid : Prop := fnExactBaseForRow.holds Try.pinned (OpenSpec.ofChange fnExactBaseForSpec)

/-- ITS FALSE NEIGHBOUR: 'it returns false'. Refute it at one input. -/
def fnExactBaseForWrong : ChangeSpec := { name := "fnExactBaseFor", fn := fun _ => fun
  | [d1, d2] => { results := [.lit (.bool false)], args := [d1, d2] }
  | _ => none }
def FnExactBaseForWrongFalsely : Prop := fnExactBaseForRow.holds Try.pinned (OpenSpec.ofChange fnExactBaseForWrong)

/-- 'laws.FnExactChainOf': WHATEVER THE INPUT: true; the input reads as it did. -/
def fnExactChainOfSpec : ChangeSpec := { name := "fnExactChainOf", fn := fun _ => fun
  | [d1, d2] => { results := [.lit (.bool true)], args := [d1, d2] }
  | _ => none }
def fnExactChainOfRow : OpenClaim := { program := "ytfkadlnfkgheaaa", sum := "28557aba0c807462ec83838f3278bdabbdabb1164b4fe77ddc9134875f89f05d", func := "loop.example/g00310/laws.FnExactChainOf", spec := "fnExactChainOf", unfollowed := true, recurses := true, apart := false }
def FnExactChainOfSaid : Prop := fnExactChainOfRow.holds Try.pinned (OpenSpec.ofChange fnExactChainOfSpec)

/-- ITS FALSE NEIGHBOUR: 'it returns false'. Refute it at one input. -/
def fnExactChainOfWrong : ChangeSpec := { name := "fnExactChainOf", fn := fun _ => fun
  | [d1, d2] => { results := [.lit (.bool false)], args := [d1, d2] }
  | _ => none }
def FnExactChainOfWrongFalsely : Prop := fnExactChainOfRow.holds Try.pinned (OpenSpec.ofChange fnExactChainOfWrong)

/-- 'laws.FnExactKept': WHATEVER THE INPUT: true; the input reads as it did. -/
def fnExactKeptSpec : ChangeSpec := { name := "fnExactKept", fn := fun _ => fun
  | [d1, d2] => { results := [.lit (.bool true)], args := [d1, d2] }
  | _ => none }
def fnExactKeptRow : OpenClaim := { program := "ytfkadlnfkgheaaa", sum := "28557aba0c807462ec83838f3278bdabbdabb1164b4fe77ddc9134875f89f05d", func := "loop.example/g00310/laws.FnExactKept", spec := "fnExactKept", unfollowed := true, recurses := true, apart := false }
def FnExactKeptSaid : Prop := fnExactKeptRow.holds Try.pinned (OpenSpec.ofChange fnExactKeptSpec)

/-- ITS FALSE NEIGHBOUR: 'it returns false'. Refute it at one input. -/
def fnExactKeptWrong : ChangeSpec := { name := "fnExactKept", fn := fun _ => fun
  | [d1, d2] => { results := [.lit (.bool false)], args := [d1, d2] }
  | _ => none }
def FnExactKeptWrongFalsely : Prop := fnExactKeptRow.holds Try.pinned (OpenSpec.ofChange fnExactKeptWrong)

/- THE SECOND FORM. 'bulk': how many values and letters a reading holds, each counted each time it is reached (what is shared counts as often as it is met; a slice's spare places count too). A statement '..UptoSaid' is the law's where the arguments, and the package variables that the reading takes, are together of bulk at most 1048576: NARROWER than '..Said'. Prove '..Said' where nothing that the law and all that it calls make is longer than what came in: it says more and counts as full. Else prove '..UptoSaid'. A law counts once. -/
mutual
def uptoBulk {H : Type} : DataW H → Nat
  | .lit (.string bytes) => bytes.length + 1
  | .lit _ => 1
  | .nil => 1
  | .ptr d => uptoBulk d + 1
  | .slice elems spare => uptoBulkAll elems + uptoBulkAll spare + 1
  | .agg parts => uptoBulkAll parts + 1
  | .iface _ d => uptoBulk d + 1
  | .map entries => uptoBulkEntries entries + 1
  | .held _ => 1
def uptoBulkAll {H : Type} : List (DataW H) → Nat
  | [] => 0
  | d :: r => uptoBulk d + uptoBulkAll r
def uptoBulkEntries {H : Type} : List (Lit × DataW H) → Nat
  | [] => 0
  | x :: r => uptoBulkEntry x + uptoBulkEntries r
def uptoBulkEntry {H : Type} : Lit × DataW H → Nat
  | (.string bytes, d) => bytes.length + uptoBulk d + 1
  | (_, d) => uptoBulk d + 1
 end
def uptoSmall : (H : Type) → List (DataW H) → Bool := fun _ ds => decide (uptoBulkAll ds ≤ 1048576)
def OpenSpec.upto (s : _root_.Go.ChangeSpec) : _root_.Go.OpenSpec := { _root_.Go.OpenSpec.ofChange s with cond := some uptoSmall }

/-- 'laws.FnChain', WHERE WHAT IT READS IS OF BULK AT MOST 1048576: true; the input reads as it did. -/
def fnChainUptoRow : OpenClaim := { program := "ytfkadlnfkgheaaa", sum := "28557aba0c807462ec83838f3278bdabbdabb1164b4fe77ddc9134875f89f05d", func := "loop.example/g00310/laws.FnChain", spec := "fnChain", unfollowed := true, recurses := true, apart := false, narrowed := true }
def FnChainUptoSaid : Prop := fnChainUptoRow.holds Try.pinned (OpenSpec.upto fnChainSpec)

/-- 'laws.FnExactMarksRight', WHERE WHAT IT READS IS OF BULK AT MOST 1048576: true; the input reads as it did. -/
def fnExactMarksRightUptoRow : OpenClaim := { program := "ytfkadlnfkgheaaa", sum := "28557aba0c807462ec83838f3278bdabbdabb1164b4fe77ddc9134875f89f05d", func := "loop.example/g00310/laws.FnExactMarksRight", spec := "fnExactMarksRight", unfollowed := true, recurses := true, apart := false, narrowed := true }
def FnExactMarksRightUptoSaid : Prop := fnExactMarksRightUptoRow.holds Try.pinned (OpenSpec.upto fnExactMarksRightSpec)

/-- 'laws.FnExactBaseFor', WHERE WHAT IT READS IS OF BULK AT MOST 1048576: true; the input reads as it did. -/
def fnExactBaseForUptoRow : OpenClaim := { program := "ytfkadlnfkgheaaa", sum := "28557aba0c807462ec83838f3278bdabbdabb1164b4fe77ddc9134875f89f05d", func := "loop.example/g00310/laws.FnExactBaseFor", spec := "fnExactBaseFor", unfollowed := true, recurses := true, apart := false, narrowed := true }
def FnExactBaseForUptoSaid : Prop := fnExactBaseForUptoRow.holds Try.pinned (OpenSpec.upto fnExactBaseForSpec)

/-- 'laws.FnExactChainOf', WHERE WHAT IT READS IS OF BULK AT MOST 1048576: true; the input reads as it did. -/
def fnExactChainOfUptoRow : OpenClaim := { program := "ytfkadlnfkgheaaa", sum := "28557aba0c807462ec83838f3278bdabbdabb1164b4fe77ddc9134875f89f05d", func := "loop.example/g00310/laws.FnExactChainOf", spec := "fnExactChainOf", unfollowed := true, recurses := true, apart := false, narrowed := true }
def FnExactChainOfUptoSaid : Prop := fnExactChainOfUptoRow.holds Try.pinned (OpenSpec.upto fnExactChainOfSpec)

/-- 'laws.FnExactKept', WHERE WHAT IT READS IS OF BULK AT MOST 1048576: true; the input reads as it did. -/
def fnExactKeptUptoRow : OpenClaim := { program := "ytfkadlnfkgheaaa", sum := "28557aba0c807462ec83838f3278bdabbdabb1164b4fe77ddc9134875f89f05d", func := "loop.example/g00310/laws.FnExactKept", spec := "fnExactKept", unfollowed := true, recurses := true, apart := false, narrowed := true }
def FnExactKeptUptoSaid : Prop := fnExactKeptUptoRow.holds Try.pinned (OpenSpec.upto fnExactKeptSpec)

end Rows
end Go.Proofs.Ytfkadlnfkgheaaa
