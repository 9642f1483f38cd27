/-
  No cell of these rows narrows 'for every input' (looked for: loops, veiled, ifaces, maps, wideKeys, modest, calm, conditions, laid).
  DERIVED. THE GIVEN ROWS OF THIS SEAT. 2 by the template 'for every input the law returns true; each argument reads behind the call as it read before'; 0 by the template 'total and deterministic' (their statements: YtbmbcfnlpbbapahTotals.lean).
  GIVEN WITH THE SEED: the statements are not yours to turn. If you find one false, say at which input.
  Laid BY PROGRAM, IN A SANDBOX (cutbox-rows.mjs): the forced cells as the released guide's own fill.sh prints them over the translation 10a5dab78b351865… (all of the seat's roots in one cut). By AI agents, Wed Nov 11 2026. No macro, syntax, notation, axiom, sorry.
-/
import Derived.Test.YtbmbcfnlpbbapahChecked
import GoSem.Claim
import GoSem.ClaimJoined
import GoSem.ClaimMapViews
import Derived.JoinedTies
import Derived.KernelRfl
namespace Go.Proofs.Ytbmbcfnlpbbapah
/- THE CELL 'sum', in the pinned program and in every row, IS THE sha256 OF THE DUMP (.gsa) THAT YtbmbcfnlpbbapahProg.lean LOADS. Nothing in Lean hashes anything: it is a label: what it is worth is what the hold of that sum in a sandbox is worth. -/
noncomputable def Try.pinned : Pinned := { name := "ytbmbcfnlpbbapah", sum := "10a5dab78b351865c8ef6ba76489beca3fc8aa11f85e57ae89d7f48cf74e80ab", checked := Try.checked }
namespace Rows
def none {H : Type} : Left H := { results := [], args := [] }

/-- 'laws.FnExactOctalRead': WHATEVER THE INPUT: true; the input reads as it did. -/
def fnExactOctalReadSpec : ChangeSpec := { name := "fnExactOctalRead", fn := fun _ => fun
  | [d] => { results := [.lit (.bool true)], args := [d] }
  | _ => none }
def fnExactOctalReadRow : OpenClaim := { program := "ytbmbcfnlpbbapah", sum := "10a5dab78b351865c8ef6ba76489beca3fc8aa11f85e57ae89d7f48cf74e80ab", func := "loop.example/g00310/laws.FnExactOctalRead", spec := "fnExactOctalRead", apart := false }
def FnExactOctalReadSaid : Prop := fnExactOctalReadRow.holds Try.pinned (OpenSpec.ofChange fnExactOctalReadSpec)

/-- ITS FALSE NEIGHBOUR: 'it returns false'. Refute it at one input. -/
def fnExactOctalReadWrong : ChangeSpec := { name := "fnExactOctalRead", fn := fun _ => fun
  | [d] => { results := [.lit (.bool false)], args := [d] }
  | _ => none }
def FnExactOctalReadWrongFalsely : Prop := fnExactOctalReadRow.holds Try.pinned (OpenSpec.ofChange fnExactOctalReadWrong)

/-- 'laws.FnExactHeaderSum': WHATEVER THE INPUT: true; the input reads as it did. -/
def fnExactHeaderSumSpec : ChangeSpec := { name := "fnExactHeaderSum", fn := fun _ => fun
  | [d] => { results := [.lit (.bool true)], args := [d] }
  | _ => none }
def fnExactHeaderSumRow : OpenClaim := { program := "ytbmbcfnlpbbapah", sum := "10a5dab78b351865c8ef6ba76489beca3fc8aa11f85e57ae89d7f48cf74e80ab", func := "loop.example/g00310/laws.FnExactHeaderSum", spec := "fnExactHeaderSum", apart := false }
def FnExactHeaderSumSaid : Prop := fnExactHeaderSumRow.holds Try.pinned (OpenSpec.ofChange fnExactHeaderSumSpec)

/-- ITS FALSE NEIGHBOUR: 'it returns false'. Refute it at one input. -/
def fnExactHeaderSumWrong : ChangeSpec := { name := "fnExactHeaderSum", fn := fun _ => fun
  | [d] => { results := [.lit (.bool false)], args := [d] }
  | _ => none }
def FnExactHeaderSumWrongFalsely : Prop := fnExactHeaderSumRow.holds Try.pinned (OpenSpec.ofChange fnExactHeaderSumWrong)

/- THE SECOND FORM. 'bulk': how many values and letters a reading holds, each counted each time it is reached (what is shared counts as often as it is met; a slice's spare places count too). A statement '..UptoSaid' is the law's where the arguments, and the package variables that the reading takes, are together of bulk at most 1048576: NARROWER than '..Said'. Prove '..Said' where nothing that the law and all that it calls make is longer than what came in: it says more and counts as full. Else prove '..UptoSaid'. A law counts once. -/
mutual
def uptoBulk {H : Type} : DataW H → Nat
  | .lit (.string bytes) => bytes.length + 1
  | .lit _ => 1
  | .nil => 1
  | .ptr d => uptoBulk d + 1
  | .slice elems spare => uptoBulkAll elems + uptoBulkAll spare + 1
  | .agg parts => uptoBulkAll parts + 1
  | .iface _ d => uptoBulk d + 1
  | .map entries => uptoBulkEntries entries + 1
  | .held _ => 1
def uptoBulkAll {H : Type} : List (DataW H) → Nat
  | [] => 0
  | d :: r => uptoBulk d + uptoBulkAll r
def uptoBulkEntries {H : Type} : List (Lit × DataW H) → Nat
  | [] => 0
  | x :: r => uptoBulkEntry x + uptoBulkEntries r
def uptoBulkEntry {H : Type} : Lit × DataW H → Nat
  | (.string bytes, d) => bytes.length + uptoBulk d + 1
  | (_, d) => uptoBulk d + 1
 end
def uptoSmall : (H : Type) → List (DataW H) → Bool := fun _ ds => decide (uptoBulkAll ds ≤ 1048576)
def OpenSpec.upto (s : _root_.Go.ChangeSpec) : _root_.Go.OpenSpec := { _root_.Go.OpenSpec.ofChange s with cond := some uptoSmall }

/-- 'laws.FnExactOctalRead', WHERE WHAT IT READS IS OF BULK AT MOST 1048576: true; the input reads as it did. -/
def fnExactOctalReadUptoRow : OpenClaim := { program := "ytbmbcfnlpbbapah", sum := "10a5dab78b351865c8ef6ba76489beca3fc8aa11f85e57ae89d7f48cf74e80ab", func := "loop.example/g00310/laws.FnExactOctalRead", spec := "fnExactOctalRead", apart := false, narrowed := true }
def FnExactOctalReadUptoSaid : Prop := fnExactOctalReadUptoRow.holds Try.pinned (OpenSpec.upto fnExactOctalReadSpec)

/-- 'laws.FnExactHeaderSum', WHERE WHAT IT READS IS OF BULK AT MOST 1048576: true; the input reads as it did. -/
def fnExactHeaderSumUptoRow : OpenClaim := { program := "ytbmbcfnlpbbapah", sum := "10a5dab78b351865c8ef6ba76489beca3fc8aa11f85e57ae89d7f48cf74e80ab", func := "loop.example/g00310/laws.FnExactHeaderSum", spec := "fnExactHeaderSum", apart := false, narrowed := true }
def FnExactHeaderSumUptoSaid : Prop := fnExactHeaderSumUptoRow.holds Try.pinned (OpenSpec.upto fnExactHeaderSumSpec)

end Rows
end Go.Proofs.Ytbmbcfnlpbbapah
