/-
  No cell of these rows narrows 'for every input' (looked for: loops, veiled, ifaces, maps, wideKeys, modest, calm, conditions, laid).
  DERIVED. THE GIVEN ROWS OF THIS SEAT. 5 by the template 'for every input the law returns true; each argument reads behind the call as it read before'; 0 by the template 'total and deterministic' (their statements: YtpokcbcffijheaaTotals.lean).
  GIVEN WITH THE SEED: the statements are not yours to turn. If you find one false, say at which input.
  Laid BY PROGRAM, IN A SANDBOX (cutbox-rows.mjs): the forced cells as the released guide's own fill.sh prints them over the translation e66f6f19f3c37130… (all of the seat's roots in one cut). By AI agents, Wed Nov 11 2026. No macro, syntax, notation, axiom, sorry.
-/
import Derived.Test.YtpokcbcffijheaaChecked
import GoSem.Claim
import GoSem.ClaimJoined
import GoSem.ClaimMapViews
import Derived.JoinedTies
import Derived.KernelRfl
namespace Go.Proofs.Ytpokcbcffijheaa
/- THE CELL 'sum', in the pinned program and in every row, IS THE sha256 OF THE DUMP (.gsa) THAT YtpokcbcffijheaaProg.lean LOADS. Nothing in Lean hashes anything: it is a label: what it is worth is what the hold of that sum in a sandbox is worth. -/
noncomputable def Try.pinned : Pinned := { name := "ytpokcbcffijheaa", sum := "e66f6f19f3c37130ea5ffa4d7ac9a22b5ceb32cf7b48a7d67bf81d2afe1a61eb", checked := Try.checked }
namespace Rows
def none {H : Type} : Left H := { results := [], args := [] }

/-- 'laws.FnDump': WHATEVER THE INPUT: true; the input reads as it did. -/
def fnDumpSpec : ChangeSpec := { name := "fnDump", fn := fun _ => fun
  | [d1, d2] => { results := [.lit (.bool true)], args := [d1, d2] }
  | _ => none }
def fnDumpRow : OpenClaim := { program := "ytpokcbcffijheaa", sum := "e66f6f19f3c37130ea5ffa4d7ac9a22b5ceb32cf7b48a7d67bf81d2afe1a61eb", func := "loop.example/g00310/laws.FnDump", spec := "fnDump", unfollowed := true, recurses := true, apart := false }
def FnDumpSaid : Prop := fnDumpRow.holds Try.pinned (OpenSpec.ofChange fnDumpSpec)

/-- ITS FALSE NEIGHBOUR: 'it returns false'. Refute it at one input. -/
def fnDumpWrong : ChangeSpec := { name := "fnDump", fn := fun _ => fun
  | [d1, d2] => { results := [.lit (.bool false)], args := [d1, d2] }
  | _ => none }
def FnDumpWrongFalsely : Prop := fnDumpRow.holds Try.pinned (OpenSpec.ofChange fnDumpWrong)

/-- 'laws.FnExactDumpRight': WHATEVER THE INPUT: true; the input reads as it did. -/
def fnExactDumpRightSpec : ChangeSpec := { name := "fnExactDumpRight", fn := fun _ => fun
  | [d] => { results := [.lit (.bool true)], args := [d] }
  | _ => none }
def fnExactDumpRightRow : OpenClaim := { program := "ytpokcbcffijheaa", sum := "e66f6f19f3c37130ea5ffa4d7ac9a22b5ceb32cf7b48a7d67bf81d2afe1a61eb", func := "loop.example/g00310/laws.FnExactDumpRight", spec := "fnExactDumpRight", unfollowed := true, recurses := true, apart := false }
def FnExactDumpRightSaid : Prop := fnExactDumpRightRow.holds Try.pinned (OpenSpec.ofChange fnExactDumpRightSpec)

/-- ITS FALSE NEIGHBOUR: 'it returns false'. Refute it at one input. -/
def fnExactDumpRightWrong : ChangeSpec := { name := "fnExactDumpRight", fn := fun _ => fun
  | [d] => { results := [.lit (.bool false)], args := [d] }
  | _ => none }
def FnExactDumpRightWrongFalsely : Prop := fnExactDumpRightRow.holds Try.pinned (OpenSpec.ofChange fnExactDumpRightWrong)

/-- 'laws.FnExactDumpBytes': WHATEVER THE INPUT: true; the input reads as it did. -/
def fnExactDumpBytesSpec : ChangeSpec := { name := "fnExactDumpBytes", fn := fun _ => fun
  | [d] => { results := [.lit (.bool true)], args := [d] }
  | _ => none }
def fnExactDumpBytesRow : OpenClaim := { program := "ytpokcbcffijheaa", sum := "e66f6f19f3c37130ea5ffa4d7ac9a22b5ceb32cf7b48a7d67bf81d2afe1a61eb", func := "loop.example/g00310/laws.FnExactDumpBytes", spec := "fnExactDumpBytes", unfollowed := true, recurses := true, apart := false }
def FnExactDumpBytesSaid : Prop := fnExactDumpBytesRow.holds Try.pinned (OpenSpec.ofChange fnExactDumpBytesSpec)

/-- ITS FALSE NEIGHBOUR: 'it returns false'. Refute it at one input. -/
def fnExactDumpBytesWrong : ChangeSpec := { name := "fnExactDumpBytes", fn := fun _ => fun
  | [d] => { results := [.lit (.bool false)], args := [d] }
  | _ => none }
def FnExactDumpBytesWrongFalsely : Prop := fnExactDumpBytesRow.holds Try.pinned (OpenSpec.ofChange fnExactDumpBytesWrong)

/-- 'laws.FnExactDumpRead': WHATEVER THE INPUT: true; the input reads as it did. -/
def fnExactDumpReadSpec : ChangeSpec := { name := "fnExactDumpRead", fn := fun _ => fun
  | [d] => { results := [.lit (.bool true)], args := [d] }
  | _ => none }
def fnExactDumpReadRow : OpenClaim := { program := "ytpokcbcffijheaa", sum := "e66f6f19f3c37130ea5ffa4d7ac9a22b5ceb32cf7b48a7d67bf81d2afe1a61eb", func := "loop.example/g00310/laws.FnExactDumpRead", spec := "fnExactDumpRead", unfollowed := true, recurses := true, apart := false }
def FnExactDumpReadSaid : Prop := fnExactDumpReadRow.holds Try.pinned (OpenSpec.ofChange fnExactDumpReadSpec)

/-- ITS FALSE NEIGHBOUR: 'it returns false'. Refute it at one input. -/
def fnExactDumpReadWrong : ChangeSpec := { name := "fnExactDumpRead", fn := fun _ => fun
  | [d] => { results := [.lit (.bool false)], args := [d] }
  | _ => none }
def FnExactDumpReadWrongFalsely : Prop := fnExactDumpReadRow.holds Try.pinned (OpenSpec.ofChange fnExactDumpReadWrong)

/-- 'laws.FnExactMarksOf': WHATEVER THE INPUT: true; the input reads as it did. -/
def fnExactMarksOfSpec : ChangeSpec := { name := "fnExactMarksOf", fn := fun _ => fun
  | [d1, d2] => { results := [.lit (.bool true)], args := [d1, d2] }
  | _ => none }
def fnExactMarksOfRow : OpenClaim := { program := "ytpokcbcffijheaa", sum := "e66f6f19f3c37130ea5ffa4d7ac9a22b5ceb32cf7b48a7d67bf81d2afe1a61eb", func := "loop.example/g00310/laws.FnExactMarksOf", spec := "fnExactMarksOf", apart := false }
def FnExactMarksOfSaid : Prop := fnExactMarksOfRow.holds Try.pinned (OpenSpec.ofChange fnExactMarksOfSpec)

/-- ITS FALSE NEIGHBOUR: 'it returns false'. Refute it at one input. -/
def fnExactMarksOfWrong : ChangeSpec := { name := "fnExactMarksOf", fn := fun _ => fun
  | [d1, d2] => { results := [.lit (.bool false)], args := [d1, d2] }
  | _ => none }
def FnExactMarksOfWrongFalsely : Prop := fnExactMarksOfRow.holds Try.pinned (OpenSpec.ofChange fnExactMarksOfWrong)

/- THE SECOND FORM. 'bulk': how many values and letters a reading holds, each counted each time it is reached (what is shared counts as often as it is met; a slice's spare places count too). A statement '..UptoSaid' is the law's where the arguments, and the package variables that the reading takes, are together of bulk at most 1048576: NARROWER than '..Said'. Prove '..Said' where nothing that the law and all that it calls make is longer than what came in: it says more and counts as full. Else prove '..UptoSaid'. A law counts once. -/
mutual
def uptoBulk {H : Type} : DataW H → Nat
  | .lit (.string bytes) => bytes.length + 1
  | .lit _ => 1
  | .nil => 1
  | .ptr d => uptoBulk d + 1
  | .slice elems spare => uptoBulkAll elems + uptoBulkAll spare + 1
  | .agg parts => uptoBulkAll parts + 1
  | .iface _ d => uptoBulk d + 1
  | .map entries => uptoBulkEntries entries + 1
  | .held _ => 1
def uptoBulkAll {H : Type} : List (DataW H) → Nat
  | [] => 0
  | d :: r => uptoBulk d + uptoBulkAll r
def uptoBulkEntries {H : Type} : List (Lit × DataW H) → Nat
  | [] => 0
  | x :: r => uptoBulkEntry x + uptoBulkEntries r
def uptoBulkEntry {H : Type} : Lit × DataW H → Nat
  | (.string bytes, d) => bytes.length + uptoBulk d + 1
  | (_, d) => uptoBulk d + 1
 end
def uptoSmall : (H : Type) → List (DataW H) → Bool := fun _ ds => decide (uptoBulkAll ds ≤ 1048576)
def OpenSpec.upto (s : _root_.Go.ChangeSpec) : _root_.Go.OpenSpec := { _root_.Go.OpenSpec.ofChange s with cond := some uptoSmall }

/-- 'laws.FnDump', WHERE WHAT IT READS IS OF BULK AT MOST 1048576: true; the input reads as it did. -/
def fnDumpUptoRow : OpenClaim := { program := "ytpokcbcffijheaa", sum := "e66f6f19f3c37130ea5ffa4d7ac9a22b5ceb32cf7b48a7d67bf81d2afe1a61eb", func := "loop.example/g00310/laws.FnDump", spec := "fnDump", unfollowed := true, recurses := true, apart := false, narrowed := true }
def FnDumpUptoSaid : Prop := fnDumpUptoRow.holds Try.pinned (OpenSpec.upto fnDumpSpec)

/-- 'laws.FnExactDumpRight', WHERE WHAT IT READS IS OF BULK AT MOST 1048576: true; the input reads as it did. -/
def fnExactDumpRightUptoRow : OpenClaim := { program := "ytpokcbcffijheaa", sum := "e66f6f19f3c37130ea5ffa4d7ac9a22b5ceb32cf7b48a7d67bf81d2afe1a61eb", func := "loop.example/g00310/laws.FnExactDumpRight", spec := "fnExactDumpRight", unfollowed := true, recurses := true, apart := false, narrowed := true }
def FnExactDumpRightUptoSaid : Prop := fnExactDumpRightUptoRow.holds Try.pinned (OpenSpec.upto fnExactDumpRightSpec)

/-- 'laws.FnExactDumpBytes', WHERE WHAT IT READS IS OF BULK AT MOST 1048576: true; the input reads as it did. -/
def fnExactDumpBytesUptoRow : OpenClaim := { program := "ytpokcbcffijheaa", sum := "e66f6f19f3c37130ea5ffa4d7ac9a22b5ceb32cf7b48a7d67bf81d2afe1a61eb", func := "loop.example/g00310/laws.FnExactDumpBytes", spec := "fnExactDumpBytes", unfollowed := true, recurses := true, apart := false, narrowed := true }
def FnExactDumpBytesUptoSaid : Prop := fnExactDumpBytesUptoRow.holds Try.pinned (OpenSpec.upto fnExactDumpBytesSpec)

/-- 'laws.FnExactDumpRead', WHERE WHAT IT READS IS OF BULK AT MOST 1048576: true; the input reads as it did. -/
def fnExactDumpReadUptoRow : OpenClaim := { program := "ytpokcbcffijheaa", sum := "e66f6f19f3c37130ea5ffa4d7ac9a22b5ceb32cf7b48a7d67bf81d2afe1a61eb", func := "loop.example/g00310/laws.FnExactDumpRead", spec := "fnExactDumpRead", unfollowed := true, recurses := true, apart := false, narrowed := true }
def FnExactDumpReadUptoSaid : Prop := fnExactDumpReadUptoRow.holds Try.pinned (OpenSpec.upto fnExactDumpReadSpec)

/-- 'laws.FnExactMarksOf', WHERE WHAT IT READS IS OF BULK AT MOST 1048576: true; the input reads as it did. -/
def fnExactMarksOfUptoRow : OpenClaim := { program := "ytpokcbcffijheaa", sum := "e66f6f19f3c37130ea5ffa4d7ac9a22b5ceb32cf7b48a7d67bf81d2afe1a61eb", func := "loop.example/g00310/laws.FnExactMarksOf", spec := "fnExactMarksOf", apart := false, narrowed := true }
def FnExactMarksOfUptoSaid : Prop := fnExactMarksOfUptoRow.holds Try.pinned (OpenSpec.upto fnExactMarksOfSpec)

end Rows
end Go.Proofs.Ytpokcbcffijheaa
