/-
  No cell of these rows narrows 'for every input' (looked for: loops, veiled, ifaces, maps, wideKeys, modest, calm, conditions, laid).
  DERIVED. THE GIVEN ROWS OF THIS SEAT. 6 by the template 'for every input the law returns true; each argument reads behind the call as it read before'; 0 by the template 'total and deterministic' (their statements: YtappficbjjkmiaaTotals.lean).
  GIVEN WITH THE SEED: the statements are not yours to turn. If you find one false, say at which input.
  Laid BY PROGRAM, IN A SANDBOX (cutbox-rows.mjs): the forced cells as the released guide's own fill.sh prints them over the translation f2fe8616bb73c070… (all of the seat's roots in one cut). By AI agents, Wed Nov 11 2026. No macro, syntax, notation, axiom, sorry.
-/
import Derived.Test.YtappficbjjkmiaaChecked
import GoSem.Claim
import GoSem.ClaimJoined
import GoSem.ClaimMapViews
import Derived.JoinedTies
import Derived.KernelRfl
namespace Go.Proofs.Ytappficbjjkmiaa
/- THE CELL 'sum', in the pinned program and in every row, IS THE sha256 OF THE DUMP (.gsa) THAT YtappficbjjkmiaaProg.lean LOADS. Nothing in Lean hashes anything: it is a label: what it is worth is what the hold of that sum in a sandbox is worth. -/
noncomputable def Try.pinned : Pinned := { name := "ytappficbjjkmiaa", sum := "f2fe8616bb73c070882356c585fff6ed10da2b0e4b222274e7419b6f40031934", checked := Try.checked }
namespace Rows
def none {H : Type} : Left H := { results := [], args := [] }

/-- 'laws.FnTapes': WHATEVER THE INPUT: true; the input reads as it did. -/
def fnTapesSpec : ChangeSpec := { name := "fnTapes", fn := fun _ => fun
  | [d] => { results := [.lit (.bool true)], args := [d] }
  | _ => none }
def fnTapesRow : OpenClaim := { program := "ytappficbjjkmiaa", sum := "f2fe8616bb73c070882356c585fff6ed10da2b0e4b222274e7419b6f40031934", func := "loop.example/g00310/laws.FnTapes", spec := "fnTapes", unfollowed := true, recurses := true, apart := false }
def FnTapesSaid : Prop := fnTapesRow.holds Try.pinned (OpenSpec.ofChange fnTapesSpec)

/-- ITS FALSE NEIGHBOUR: 'it returns false'. Refute it at one input. -/
def fnTapesWrong : ChangeSpec := { name := "fnTapes", fn := fun _ => fun
  | [d] => { results := [.lit (.bool false)], args := [d] }
  | _ => none }
def FnTapesWrongFalsely : Prop := fnTapesRow.holds Try.pinned (OpenSpec.ofChange fnTapesWrong)

/-- 'laws.FnCrash': WHATEVER THE INPUT: true; the input reads as it did. -/
def fnCrashSpec : ChangeSpec := { name := "fnCrash", fn := fun _ => fun
  | [d1, d2] => { results := [.lit (.bool true)], args := [d1, d2] }
  | _ => none }
def fnCrashRow : OpenClaim := { program := "ytappficbjjkmiaa", sum := "f2fe8616bb73c070882356c585fff6ed10da2b0e4b222274e7419b6f40031934", func := "loop.example/g00310/laws.FnCrash", spec := "fnCrash", unfollowed := true, recurses := true, apart := false }
def FnCrashSaid : Prop := fnCrashRow.holds Try.pinned (OpenSpec.ofChange fnCrashSpec)

/-- ITS FALSE NEIGHBOUR: 'it returns false'. Refute it at one input. -/
def fnCrashWrong : ChangeSpec := { name := "fnCrash", fn := fun _ => fun
  | [d1, d2] => { results := [.lit (.bool false)], args := [d1, d2] }
  | _ => none }
def FnCrashWrongFalsely : Prop := fnCrashRow.holds Try.pinned (OpenSpec.ofChange fnCrashWrong)

/-- 'laws.FnExactTapesRight': WHATEVER THE INPUT: true; the input reads as it did. -/
def fnExactTapesRightSpec : ChangeSpec := { name := "fnExactTapesRight", fn := fun _ => fun
  | [d] => { results := [.lit (.bool true)], args := [d] }
  | _ => none }
def fnExactTapesRightRow : OpenClaim := { program := "ytappficbjjkmiaa", sum := "f2fe8616bb73c070882356c585fff6ed10da2b0e4b222274e7419b6f40031934", func := "loop.example/g00310/laws.FnExactTapesRight", spec := "fnExactTapesRight", unfollowed := true, recurses := true, apart := false }
def FnExactTapesRightSaid : Prop := fnExactTapesRightRow.holds Try.pinned (OpenSpec.ofChange fnExactTapesRightSpec)

/-- ITS FALSE NEIGHBOUR: 'it returns false'. Refute it at one input. -/
def fnExactTapesRightWrong : ChangeSpec := { name := "fnExactTapesRight", fn := fun _ => fun
  | [d] => { results := [.lit (.bool false)], args := [d] }
  | _ => none }
def FnExactTapesRightWrongFalsely : Prop := fnExactTapesRightRow.holds Try.pinned (OpenSpec.ofChange fnExactTapesRightWrong)

/-- 'laws.FnExactTapesWrite': WHATEVER THE INPUT: true; the input reads as it did. -/
def fnExactTapesWriteSpec : ChangeSpec := { name := "fnExactTapesWrite", fn := fun _ => fun
  | [d1, d2, d3] => { results := [.lit (.bool true)], args := [d1, d2, d3] }
  | _ => none }
def fnExactTapesWriteRow : OpenClaim := { program := "ytappficbjjkmiaa", sum := "f2fe8616bb73c070882356c585fff6ed10da2b0e4b222274e7419b6f40031934", func := "loop.example/g00310/laws.FnExactTapesWrite", spec := "fnExactTapesWrite", unfollowed := true, recurses := true, apart := false }
def FnExactTapesWriteSaid : Prop := fnExactTapesWriteRow.holds Try.pinned (OpenSpec.ofChange fnExactTapesWriteSpec)

/-- ITS FALSE NEIGHBOUR: 'it returns false'. Refute it at one input. -/
def fnExactTapesWriteWrong : ChangeSpec := { name := "fnExactTapesWrite", fn := fun _ => fun
  | [d1, d2, d3] => { results := [.lit (.bool false)], args := [d1, d2, d3] }
  | _ => none }
def FnExactTapesWriteWrongFalsely : Prop := fnExactTapesWriteRow.holds Try.pinned (OpenSpec.ofChange fnExactTapesWriteWrong)

/-- 'laws.FnExactTapesRead': WHATEVER THE INPUT: true; the input reads as it did. -/
def fnExactTapesReadSpec : ChangeSpec := { name := "fnExactTapesRead", fn := fun _ => fun
  | [d1, d2, d3] => { results := [.lit (.bool true)], args := [d1, d2, d3] }
  | _ => none }
def fnExactTapesReadRow : OpenClaim := { program := "ytappficbjjkmiaa", sum := "f2fe8616bb73c070882356c585fff6ed10da2b0e4b222274e7419b6f40031934", func := "loop.example/g00310/laws.FnExactTapesRead", spec := "fnExactTapesRead", unfollowed := true, recurses := true, apart := false }
def FnExactTapesReadSaid : Prop := fnExactTapesReadRow.holds Try.pinned (OpenSpec.ofChange fnExactTapesReadSpec)

/-- ITS FALSE NEIGHBOUR: 'it returns false'. Refute it at one input. -/
def fnExactTapesReadWrong : ChangeSpec := { name := "fnExactTapesRead", fn := fun _ => fun
  | [d1, d2, d3] => { results := [.lit (.bool false)], args := [d1, d2, d3] }
  | _ => none }
def FnExactTapesReadWrongFalsely : Prop := fnExactTapesReadRow.holds Try.pinned (OpenSpec.ofChange fnExactTapesReadWrong)

/-- 'laws.FnExactTapesSync': WHATEVER THE INPUT: true; the input reads as it did. -/
def fnExactTapesSyncSpec : ChangeSpec := { name := "fnExactTapesSync", fn := fun _ => fun
  | [d] => { results := [.lit (.bool true)], args := [d] }
  | _ => none }
def fnExactTapesSyncRow : OpenClaim := { program := "ytappficbjjkmiaa", sum := "f2fe8616bb73c070882356c585fff6ed10da2b0e4b222274e7419b6f40031934", func := "loop.example/g00310/laws.FnExactTapesSync", spec := "fnExactTapesSync", unfollowed := true, recurses := true, apart := false }
def FnExactTapesSyncSaid : Prop := fnExactTapesSyncRow.holds Try.pinned (OpenSpec.ofChange fnExactTapesSyncSpec)

/-- ITS FALSE NEIGHBOUR: 'it returns false'. Refute it at one input. -/
def fnExactTapesSyncWrong : ChangeSpec := { name := "fnExactTapesSync", fn := fun _ => fun
  | [d] => { results := [.lit (.bool false)], args := [d] }
  | _ => none }
def FnExactTapesSyncWrongFalsely : Prop := fnExactTapesSyncRow.holds Try.pinned (OpenSpec.ofChange fnExactTapesSyncWrong)

/- THE SECOND FORM. 'bulk': how many values and letters a reading holds, each counted each time it is reached (what is shared counts as often as it is met; a slice's spare places count too). A statement '..UptoSaid' is the law's where the arguments, and the package variables that the reading takes, are together of bulk at most 1048576: NARROWER than '..Said'. Prove '..Said' where nothing that the law and all that it calls make is longer than what came in: it says more and counts as full. Else prove '..UptoSaid'. A law counts once. -/
mutual
def uptoBulk {H : Type} : DataW H → Nat
  | .lit (.string bytes) => bytes.length + 1
  | .lit _ => 1
  | .nil => 1
  | .ptr d => uptoBulk d + 1
  | .slice elems spare => uptoBulkAll elems + uptoBulkAll spare + 1
  | .agg parts => uptoBulkAll parts + 1
  | .iface _ d => uptoBulk d + 1
  | .map entries => uptoBulkEntries entries + 1
  | .held _ => 1
def uptoBulkAll {H : Type} : List (DataW H) → Nat
  | [] => 0
  | d :: r => uptoBulk d + uptoBulkAll r
def uptoBulkEntries {H : Type} : List (Lit × DataW H) → Nat
  | [] => 0
  | x :: r => uptoBulkEntry x + uptoBulkEntries r
def uptoBulkEntry {H : Type} : Lit × DataW H → Nat
  | (.string bytes, d) => bytes.length + uptoBulk d + 1
  | (_, d) => uptoBulk d + 1
 end
def uptoSmall : (H : Type) → List (DataW H) → Bool := fun _ ds => decide (uptoBulkAll ds ≤ 1048576)
def OpenSpec.upto (s : _root_.Go.ChangeSpec) : _root_.Go.OpenSpec := { _root_.Go.OpenSpec.ofChange s with cond := some uptoSmall }

/-- 'laws.FnTapes', WHERE WHAT IT READS IS OF BULK AT MOST 1048576: true; the input reads as it did. -/
def fnTapesUptoRow : OpenClaim := { program := "ytappficbjjkmiaa", sum := "f2fe8616bb73c070882356c585fff6ed10da2b0e4b222274e7419b6f40031934", func := "loop.example/g00310/laws.FnTapes", spec := "fnTapes", unfollowed := true, recurses := true, apart := false, narrowed := true }
def FnTapesUptoSaid : Prop := fnTapesUptoRow.holds Try.pinned (OpenSpec.upto fnTapesSpec)

/-- 'laws.FnCrash', WHERE WHAT IT READS IS OF BULK AT MOST 1048576: true; the input reads as it did. -/
def fnCrashUptoRow : OpenClaim := { program := "ytappficbjjkmiaa", sum := "f2fe8616bb73c070882356c585fff6ed10da2b0e4b222274e7419b6f40031934", func := "loop.example/g00310/laws.FnCrash", spec := "fnCrash", unfollowed := true, recurses := true, apart := false, narrowed := true }
def FnCrashUptoSaid : Prop := fnCrashUptoRow.holds Try.pinned (OpenSpec.upto fnCrashSpec)

/-- 'laws.FnExactTapesRight', WHERE WHAT IT READS IS OF BULK AT MOST 1048576: true; the input reads as it did. -/
def fnExactTapesRightUptoRow : OpenClaim := { program := "ytappficbjjkmiaa", sum := "f2fe8616bb73c070882356c585fff6ed10da2b0e4b222274e7419b6f40031934", func := "loop.example/g00310/laws.FnExactTapesRight", spec := "fnExactTapesRight", unfollowed := true, recurses := true, apart := false, narrowed := true }
def FnExactTapesRightUptoSaid : Prop := fnExactTapesRightUptoRow.holds Try.pinned (OpenSpec.upto fnExactTapesRightSpec)

/-- 'laws.FnExactTapesWrite', WHERE WHAT IT READS IS OF BULK AT MOST 1048576: true; the input reads as it did. -/
def fnExactTapesWriteUptoRow : OpenClaim := { program := "ytappficbjjkmiaa", sum := "f2fe8616bb73c070882356c585fff6ed10da2b0e4b222274e7419b6f40031934", func := "loop.example/g00310/laws.FnExactTapesWrite", spec := "fnExactTapesWrite", unfollowed := true, recurses := true, apart := false, narrowed := true }
def FnExactTapesWriteUptoSaid : Prop := fnExactTapesWriteUptoRow.holds Try.pinned (OpenSpec.upto fnExactTapesWriteSpec)

/-- 'laws.FnExactTapesRead', WHERE WHAT IT READS IS OF BULK AT MOST 1048576: true; the input reads as it did. -/
def fnExactTapesReadUptoRow : OpenClaim := { program := "ytappficbjjkmiaa", sum := "f2fe8616bb73c070882356c585fff6ed10da2b0e4b222274e7419b6f40031934", func := "loop.example/g00310/laws.FnExactTapesRead", spec := "fnExactTapesRead", unfollowed := true, recurses := true, apart := false, narrowed := true }
def FnExactTapesReadUptoSaid : Prop := fnExactTapesReadUptoRow.holds Try.pinned (OpenSpec.upto fnExactTapesReadSpec)

/-- 'laws.FnExactTapesSync', WHERE WHAT IT READS IS OF BULK AT MOST 1048576: true; the input reads as it did. -/
def fnExactTapesSyncUptoRow : OpenClaim := { program := "ytappficbjjkmiaa", sum := "f2fe8616bb73c070882356c585fff6ed10da2b0e4b222274e7419b6f40031934", func := "loop.example/g00310/laws.FnExactTapesSync", spec := "fnExactTapesSync", unfollowed := true, recurses := true, apart := false, narrowed := true }
def FnExactTapesSyncUptoSaid : Prop := fnExactTapesSyncUptoRow.holds Try.pinned (OpenSpec.upto fnExactTapesSyncSpec)

end Rows
end Go.Proofs.Ytappficbjjkmiaa
