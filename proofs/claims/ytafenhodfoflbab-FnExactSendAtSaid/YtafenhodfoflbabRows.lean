/-
  No cell of these rows narrows 'for every input' (looked for: loops, veiled, ifaces, maps, wideKeys, modest, calm, conditions, laid).
  DERIVED. THE GIVEN ROWS OF THIS SEAT. 6 by the template 'for every input the law returns true; each argument reads behind the call as it read before'; 0 by the template 'total and deterministic' (their statements: YtafenhodfoflbabTotals.lean).
  GIVEN WITH THE SEED: the statements are not yours to turn. If you find one false, say at which input.
  Laid BY PROGRAM, IN A SANDBOX (cutbox-rows.mjs): the forced cells as the released guide's own fill.sh prints them over the translation aafd07547f9d07f0… (all of the seat's roots in one cut). By AI agents, Wed Nov 11 2026. No macro, syntax, notation, axiom, sorry.
-/
import Derived.Test.YtafenhodfoflbabChecked
import GoSem.Claim
import GoSem.ClaimJoined
import GoSem.ClaimMapViews
import Derived.JoinedTies
import Derived.KernelRfl
namespace Go.Proofs.Ytafenhodfoflbab
/- THE CELL 'sum', in the pinned program and in every row, IS THE sha256 OF THE DUMP (.gsa) THAT YtafenhodfoflbabProg.lean LOADS. Nothing in Lean hashes anything: it is a label: what it is worth is what the hold of that sum in a sandbox is worth. -/
noncomputable def Try.pinned : Pinned := { name := "ytafenhodfoflbab", sum := "aafd07547f9d07f00f5c93291eea6cd10ef9b21219cada7f6738ca880f71e421", checked := Try.checked }
namespace Rows
def none {H : Type} : Left H := { results := [], args := [] }

/-- 'laws.FnExactSenderRight': WHATEVER THE INPUT: true; the input reads as it did. -/
def fnExactSenderRightSpec : ChangeSpec := { name := "fnExactSenderRight", fn := fun _ => fun
  | [d] => { results := [.lit (.bool true)], args := [d] }
  | _ => none }
def fnExactSenderRightRow : OpenClaim := { program := "ytafenhodfoflbab", sum := "aafd07547f9d07f00f5c93291eea6cd10ef9b21219cada7f6738ca880f71e421", func := "loop.example/g00310/laws.FnExactSenderRight", spec := "fnExactSenderRight", apart := false }
def FnExactSenderRightSaid : Prop := fnExactSenderRightRow.holds Try.pinned (OpenSpec.ofChange fnExactSenderRightSpec)

/-- ITS FALSE NEIGHBOUR: 'it returns false'. Refute it at one input. -/
def fnExactSenderRightWrong : ChangeSpec := { name := "fnExactSenderRight", fn := fun _ => fun
  | [d] => { results := [.lit (.bool false)], args := [d] }
  | _ => none }
def FnExactSenderRightWrongFalsely : Prop := fnExactSenderRightRow.holds Try.pinned (OpenSpec.ofChange fnExactSenderRightWrong)

/-- 'laws.FnExactSendAt': WHATEVER THE INPUT: true; the input reads as it did. -/
def fnExactSendAtSpec : ChangeSpec := { name := "fnExactSendAt", fn := fun _ => fun
  | [d1, d2] => { results := [.lit (.bool true)], args := [d1, d2] }
  | _ => none }
def fnExactSendAtRow : OpenClaim := { program := "ytafenhodfoflbab", sum := "aafd07547f9d07f00f5c93291eea6cd10ef9b21219cada7f6738ca880f71e421", func := "loop.example/g00310/laws.FnExactSendAt", spec := "fnExactSendAt", apart := false }
def FnExactSendAtSaid : Prop := fnExactSendAtRow.holds Try.pinned (OpenSpec.ofChange fnExactSendAtSpec)

/-- ITS FALSE NEIGHBOUR: 'it returns false'. Refute it at one input. -/
def fnExactSendAtWrong : ChangeSpec := { name := "fnExactSendAt", fn := fun _ => fun
  | [d1, d2] => { results := [.lit (.bool false)], args := [d1, d2] }
  | _ => none }
def FnExactSendAtWrongFalsely : Prop := fnExactSendAtRow.holds Try.pinned (OpenSpec.ofChange fnExactSendAtWrong)

/-- 'laws.FnExactSendAck': WHATEVER THE INPUT: true; the input reads as it did. -/
def fnExactSendAckSpec : ChangeSpec := { name := "fnExactSendAck", fn := fun _ => fun
  | [d1, d2, d3] => { results := [.lit (.bool true)], args := [d1, d2, d3] }
  | _ => none }
def fnExactSendAckRow : OpenClaim := { program := "ytafenhodfoflbab", sum := "aafd07547f9d07f00f5c93291eea6cd10ef9b21219cada7f6738ca880f71e421", func := "loop.example/g00310/laws.FnExactSendAck", spec := "fnExactSendAck", apart := false }
def FnExactSendAckSaid : Prop := fnExactSendAckRow.holds Try.pinned (OpenSpec.ofChange fnExactSendAckSpec)

/-- ITS FALSE NEIGHBOUR: 'it returns false'. Refute it at one input. -/
def fnExactSendAckWrong : ChangeSpec := { name := "fnExactSendAck", fn := fun _ => fun
  | [d1, d2, d3] => { results := [.lit (.bool false)], args := [d1, d2, d3] }
  | _ => none }
def FnExactSendAckWrongFalsely : Prop := fnExactSendAckRow.holds Try.pinned (OpenSpec.ofChange fnExactSendAckWrong)

/-- 'laws.FnExactReceiverRight': WHATEVER THE INPUT: true; the input reads as it did. -/
def fnExactReceiverRightSpec : ChangeSpec := { name := "fnExactReceiverRight", fn := fun _ => fun
  | [d] => { results := [.lit (.bool true)], args := [d] }
  | _ => none }
def fnExactReceiverRightRow : OpenClaim := { program := "ytafenhodfoflbab", sum := "aafd07547f9d07f00f5c93291eea6cd10ef9b21219cada7f6738ca880f71e421", func := "loop.example/g00310/laws.FnExactReceiverRight", spec := "fnExactReceiverRight", apart := false }
def FnExactReceiverRightSaid : Prop := fnExactReceiverRightRow.holds Try.pinned (OpenSpec.ofChange fnExactReceiverRightSpec)

/-- ITS FALSE NEIGHBOUR: 'it returns false'. Refute it at one input. -/
def fnExactReceiverRightWrong : ChangeSpec := { name := "fnExactReceiverRight", fn := fun _ => fun
  | [d] => { results := [.lit (.bool false)], args := [d] }
  | _ => none }
def FnExactReceiverRightWrongFalsely : Prop := fnExactReceiverRightRow.holds Try.pinned (OpenSpec.ofChange fnExactReceiverRightWrong)

/-- 'laws.FnExactReceiveAt': WHATEVER THE INPUT: true; the input reads as it did. -/
def fnExactReceiveAtSpec : ChangeSpec := { name := "fnExactReceiveAt", fn := fun _ => fun
  | [d1, d2] => { results := [.lit (.bool true)], args := [d1, d2] }
  | _ => none }
def fnExactReceiveAtRow : OpenClaim := { program := "ytafenhodfoflbab", sum := "aafd07547f9d07f00f5c93291eea6cd10ef9b21219cada7f6738ca880f71e421", func := "loop.example/g00310/laws.FnExactReceiveAt", spec := "fnExactReceiveAt", apart := false }
def FnExactReceiveAtSaid : Prop := fnExactReceiveAtRow.holds Try.pinned (OpenSpec.ofChange fnExactReceiveAtSpec)

/-- ITS FALSE NEIGHBOUR: 'it returns false'. Refute it at one input. -/
def fnExactReceiveAtWrong : ChangeSpec := { name := "fnExactReceiveAt", fn := fun _ => fun
  | [d1, d2] => { results := [.lit (.bool false)], args := [d1, d2] }
  | _ => none }
def FnExactReceiveAtWrongFalsely : Prop := fnExactReceiveAtRow.holds Try.pinned (OpenSpec.ofChange fnExactReceiveAtWrong)

/-- 'laws.FnExactReceived': WHATEVER THE INPUT: true; the input reads as it did. -/
def fnExactReceivedSpec : ChangeSpec := { name := "fnExactReceived", fn := fun _ => fun
  | [d] => { results := [.lit (.bool true)], args := [d] }
  | _ => none }
def fnExactReceivedRow : OpenClaim := { program := "ytafenhodfoflbab", sum := "aafd07547f9d07f00f5c93291eea6cd10ef9b21219cada7f6738ca880f71e421", func := "loop.example/g00310/laws.FnExactReceived", spec := "fnExactReceived", apart := false }
def FnExactReceivedSaid : Prop := fnExactReceivedRow.holds Try.pinned (OpenSpec.ofChange fnExactReceivedSpec)

/-- ITS FALSE NEIGHBOUR: 'it returns false'. Refute it at one input. -/
def fnExactReceivedWrong : ChangeSpec := { name := "fnExactReceived", fn := fun _ => fun
  | [d] => { results := [.lit (.bool false)], args := [d] }
  | _ => none }
def FnExactReceivedWrongFalsely : Prop := fnExactReceivedRow.holds Try.pinned (OpenSpec.ofChange fnExactReceivedWrong)

/- THE SECOND FORM. 'bulk': how many values and letters a reading holds, each counted each time it is reached (what is shared counts as often as it is met; a slice's spare places count too). A statement '..UptoSaid' is the law's where the arguments, and the package variables that the reading takes, are together of bulk at most 1048576: NARROWER than '..Said'. Prove '..Said' where nothing that the law and all that it calls make is longer than what came in: it says more and counts as full. Else prove '..UptoSaid'. A law counts once. -/
mutual
def uptoBulk {H : Type} : DataW H → Nat
  | .lit (.string bytes) => bytes.length + 1
  | .lit _ => 1
  | .nil => 1
  | .ptr d => uptoBulk d + 1
  | .slice elems spare => uptoBulkAll elems + uptoBulkAll spare + 1
  | .agg parts => uptoBulkAll parts + 1
  | .iface _ d => uptoBulk d + 1
  | .map entries => uptoBulkEntries entries + 1
  | .held _ => 1
def uptoBulkAll {H : Type} : List (DataW H) → Nat
  | [] => 0
  | d :: r => uptoBulk d + uptoBulkAll r
def uptoBulkEntries {H : Type} : List (Lit × DataW H) → Nat
  | [] => 0
  | x :: r => uptoBulkEntry x + uptoBulkEntries r
def uptoBulkEntry {H : Type} : Lit × DataW H → Nat
  | (.string bytes, d) => bytes.length + uptoBulk d + 1
  | (_, d) => uptoBulk d + 1
 end
def uptoSmall : (H : Type) → List (DataW H) → Bool := fun _ ds => decide (uptoBulkAll ds ≤ 1048576)
def OpenSpec.upto (s : _root_.Go.ChangeSpec) : _root_.Go.OpenSpec := { _root_.Go.OpenSpec.ofChange s with cond := some uptoSmall }

/-- 'laws.FnExactSenderRight', WHERE WHAT IT READS IS OF BULK AT MOST 1048576: true; the input reads as it did. -/
def fnExactSenderRightUptoRow : OpenClaim := { program := "ytafenhodfoflbab", sum := "aafd07547f9d07f00f5c93291eea6cd10ef9b21219cada7f6738ca880f71e421", func := "loop.example/g00310/laws.FnExactSenderRight", spec := "fnExactSenderRight", apart := false, narrowed := true }
def FnExactSenderRightUptoSaid : Prop := fnExactSenderRightUptoRow.holds Try.pinned (OpenSpec.upto fnExactSenderRightSpec)

/-- 'laws.FnExactSendAt', WHERE WHAT IT READS IS OF BULK AT MOST 1048576: true; the input reads as it did. -/
def fnExactSendAtUptoRow : OpenClaim := { program := "ytafenhodfoflbab", sum := "aafd07547f9d07f00f5c93291eea6cd10ef9b21219cada7f6738ca880f71e421", func := "loop.example/g00310/laws.FnExactSendAt", spec := "fnExactSendAt", apart := false, narrowed := true }
def FnExactSendAtUptoSaid : Prop := fnExactSendAtUptoRow.holds Try.pinned (OpenSpec.upto fnExactSendAtSpec)

/-- 'laws.FnExactSendAck', WHERE WHAT IT READS IS OF BULK AT MOST 1048576: true; the input reads as it did. -/
def fnExactSendAckUptoRow : OpenClaim := { program := "ytafenhodfoflbab", sum := "aafd07547f9d07f00f5c93291eea6cd10ef9b21219cada7f6738ca880f71e421", func := "loop.example/g00310/laws.FnExactSendAck", spec := "fnExactSendAck", apart := false, narrowed := true }
def FnExactSendAckUptoSaid : Prop := fnExactSendAckUptoRow.holds Try.pinned (OpenSpec.upto fnExactSendAckSpec)

/-- 'laws.FnExactReceiverRight', WHERE WHAT IT READS IS OF BULK AT MOST 1048576: true; the input reads as it did. -/
def fnExactReceiverRightUptoRow : OpenClaim := { program := "ytafenhodfoflbab", sum := "aafd07547f9d07f00f5c93291eea6cd10ef9b21219cada7f6738ca880f71e421", func := "loop.example/g00310/laws.FnExactReceiverRight", spec := "fnExactReceiverRight", apart := false, narrowed := true }
def FnExactReceiverRightUptoSaid : Prop := fnExactReceiverRightUptoRow.holds Try.pinned (OpenSpec.upto fnExactReceiverRightSpec)

/-- 'laws.FnExactReceiveAt', WHERE WHAT IT READS IS OF BULK AT MOST 1048576: true; the input reads as it did. -/
def fnExactReceiveAtUptoRow : OpenClaim := { program := "ytafenhodfoflbab", sum := "aafd07547f9d07f00f5c93291eea6cd10ef9b21219cada7f6738ca880f71e421", func := "loop.example/g00310/laws.FnExactReceiveAt", spec := "fnExactReceiveAt", apart := false, narrowed := true }
def FnExactReceiveAtUptoSaid : Prop := fnExactReceiveAtUptoRow.holds Try.pinned (OpenSpec.upto fnExactReceiveAtSpec)

/-- 'laws.FnExactReceived', WHERE WHAT IT READS IS OF BULK AT MOST 1048576: true; the input reads as it did. -/
def fnExactReceivedUptoRow : OpenClaim := { program := "ytafenhodfoflbab", sum := "aafd07547f9d07f00f5c93291eea6cd10ef9b21219cada7f6738ca880f71e421", func := "loop.example/g00310/laws.FnExactReceived", spec := "fnExactReceived", apart := false, narrowed := true }
def FnExactReceivedUptoSaid : Prop := fnExactReceivedUptoRow.holds Try.pinned (OpenSpec.upto fnExactReceivedSpec)

end Rows
end Go.Proofs.Ytafenhodfoflbab
