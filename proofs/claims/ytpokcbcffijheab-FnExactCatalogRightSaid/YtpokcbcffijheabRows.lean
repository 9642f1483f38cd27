/-
  No cell of these rows narrows 'for every input' (looked for: loops, veiled, ifaces, maps, wideKeys, modest, calm, conditions, laid).
  DERIVED. THE GIVEN ROWS OF THIS SEAT. 4 by the template 'for every input the law returns true; each argument reads behind the call as it read before'; 0 by the template 'total and deterministic' (their statements: YtpokcbcffijheabTotals.lean).
  GIVEN WITH THE SEED: the statements are not yours to turn. If you find one false, say at which input.
  Laid BY PROGRAM, IN A SANDBOX (cutbox-rows.mjs): the forced cells as the released guide's own fill.sh prints them over the translation 63d37ce9f994e8e4… (all of the seat's roots in one cut). By AI agents, Wed Nov 11 2026. No macro, syntax, notation, axiom, sorry.
-/
import Derived.Test.YtpokcbcffijheabChecked
import GoSem.Claim
import GoSem.ClaimJoined
import GoSem.ClaimMapViews
import Derived.JoinedTies
import Derived.KernelRfl
namespace Go.Proofs.Ytpokcbcffijheab
/- THE CELL 'sum', in the pinned program and in every row, IS THE sha256 OF THE DUMP (.gsa) THAT YtpokcbcffijheabProg.lean LOADS. Nothing in Lean hashes anything: it is a label: what it is worth is what the hold of that sum in a sandbox is worth. -/
noncomputable def Try.pinned : Pinned := { name := "ytpokcbcffijheab", sum := "63d37ce9f994e8e45fbb55a998abdacd6583775c908abaef931a91d2b2f004aa", checked := Try.checked }
namespace Rows
def none {H : Type} : Left H := { results := [], args := [] }

/-- 'laws.FnExactCatalogRight': WHATEVER THE INPUT: true; the input reads as it did. -/
def fnExactCatalogRightSpec : ChangeSpec := { name := "fnExactCatalogRight", fn := fun _ => fun
  | [d] => { results := [.lit (.bool true)], args := [d] }
  | _ => none }
def fnExactCatalogRightRow : OpenClaim := { program := "ytpokcbcffijheab", sum := "63d37ce9f994e8e45fbb55a998abdacd6583775c908abaef931a91d2b2f004aa", func := "loop.example/g00310/laws.FnExactCatalogRight", spec := "fnExactCatalogRight", unfollowed := true, recurses := true, apart := false }
def FnExactCatalogRightSaid : Prop := fnExactCatalogRightRow.holds Try.pinned (OpenSpec.ofChange fnExactCatalogRightSpec)

/-- ITS FALSE NEIGHBOUR: 'it returns false'. Refute it at one input. -/
def fnExactCatalogRightWrong : ChangeSpec := { name := "fnExactCatalogRight", fn := fun _ => fun
  | [d] => { results := [.lit (.bool false)], args := [d] }
  | _ => none }
def FnExactCatalogRightWrongFalsely : Prop := fnExactCatalogRightRow.holds Try.pinned (OpenSpec.ofChange fnExactCatalogRightWrong)

/-- 'laws.FnExactLogAdd': WHATEVER THE INPUT: true; the input reads as it did. -/
def fnExactLogAddSpec : ChangeSpec := { name := "fnExactLogAdd", fn := fun _ => fun
  | [d1, d2] => { results := [.lit (.bool true)], args := [d1, d2] }
  | _ => none }
def fnExactLogAddRow : OpenClaim := { program := "ytpokcbcffijheab", sum := "63d37ce9f994e8e45fbb55a998abdacd6583775c908abaef931a91d2b2f004aa", func := "loop.example/g00310/laws.FnExactLogAdd", spec := "fnExactLogAdd", unfollowed := true, recurses := true, apart := false }
def FnExactLogAddSaid : Prop := fnExactLogAddRow.holds Try.pinned (OpenSpec.ofChange fnExactLogAddSpec)

/-- ITS FALSE NEIGHBOUR: 'it returns false'. Refute it at one input. -/
def fnExactLogAddWrong : ChangeSpec := { name := "fnExactLogAdd", fn := fun _ => fun
  | [d1, d2] => { results := [.lit (.bool false)], args := [d1, d2] }
  | _ => none }
def FnExactLogAddWrongFalsely : Prop := fnExactLogAddRow.holds Try.pinned (OpenSpec.ofChange fnExactLogAddWrong)

/-- 'laws.FnExactLogDrop': WHATEVER THE INPUT: true; the input reads as it did. -/
def fnExactLogDropSpec : ChangeSpec := { name := "fnExactLogDrop", fn := fun _ => fun
  | [d1, d2] => { results := [.lit (.bool true)], args := [d1, d2] }
  | _ => none }
def fnExactLogDropRow : OpenClaim := { program := "ytpokcbcffijheab", sum := "63d37ce9f994e8e45fbb55a998abdacd6583775c908abaef931a91d2b2f004aa", func := "loop.example/g00310/laws.FnExactLogDrop", spec := "fnExactLogDrop", apart := false }
def FnExactLogDropSaid : Prop := fnExactLogDropRow.holds Try.pinned (OpenSpec.ofChange fnExactLogDropSpec)

/-- ITS FALSE NEIGHBOUR: 'it returns false'. Refute it at one input. -/
def fnExactLogDropWrong : ChangeSpec := { name := "fnExactLogDrop", fn := fun _ => fun
  | [d1, d2] => { results := [.lit (.bool false)], args := [d1, d2] }
  | _ => none }
def FnExactLogDropWrongFalsely : Prop := fnExactLogDropRow.holds Try.pinned (OpenSpec.ofChange fnExactLogDropWrong)

/-- 'laws.FnExactLogOf': WHATEVER THE INPUT: true; the input reads as it did. -/
def fnExactLogOfSpec : ChangeSpec := { name := "fnExactLogOf", fn := fun _ => fun
  | [d] => { results := [.lit (.bool true)], args := [d] }
  | _ => none }
def fnExactLogOfRow : OpenClaim := { program := "ytpokcbcffijheab", sum := "63d37ce9f994e8e45fbb55a998abdacd6583775c908abaef931a91d2b2f004aa", func := "loop.example/g00310/laws.FnExactLogOf", spec := "fnExactLogOf", unfollowed := true, recurses := true, apart := false }
def FnExactLogOfSaid : Prop := fnExactLogOfRow.holds Try.pinned (OpenSpec.ofChange fnExactLogOfSpec)

/-- ITS FALSE NEIGHBOUR: 'it returns false'. Refute it at one input. -/
def fnExactLogOfWrong : ChangeSpec := { name := "fnExactLogOf", fn := fun _ => fun
  | [d] => { results := [.lit (.bool false)], args := [d] }
  | _ => none }
def FnExactLogOfWrongFalsely : Prop := fnExactLogOfRow.holds Try.pinned (OpenSpec.ofChange fnExactLogOfWrong)

/- THE SECOND FORM. 'bulk': how many values and letters a reading holds, each counted each time it is reached (what is shared counts as often as it is met; a slice's spare places count too). A statement '..UptoSaid' is the law's where the arguments, and the package variables that the reading takes, are together of bulk at most 1048576: NARROWER than '..Said'. Prove '..Said' where nothing that the law and all that it calls make is longer than what came in: it says more and counts as full. Else prove '..UptoSaid'. A law counts once. -/
mutual
def uptoBulk {H : Type} : DataW H → Nat
  | .lit (.string bytes) => bytes.length + 1
  | .lit _ => 1
  | .nil => 1
  | .ptr d => uptoBulk d + 1
  | .slice elems spare => uptoBulkAll elems + uptoBulkAll spare + 1
  | .agg parts => uptoBulkAll parts + 1
  | .iface _ d => uptoBulk d + 1
  | .map entries => uptoBulkEntries entries + 1
  | .held _ => 1
def uptoBulkAll {H : Type} : List (DataW H) → Nat
  | [] => 0
  | d :: r => uptoBulk d + uptoBulkAll r
def uptoBulkEntries {H : Type} : List (Lit × DataW H) → Nat
  | [] => 0
  | x :: r => uptoBulkEntry x + uptoBulkEntries r
def uptoBulkEntry {H : Type} : Lit × DataW H → Nat
  | (.string bytes, d) => bytes.length + uptoBulk d + 1
  | (_, d) => uptoBulk d + 1
 end
def uptoSmall : (H : Type) → List (DataW H) → Bool := fun _ ds => decide (uptoBulkAll ds ≤ 1048576)
def OpenSpec.upto (s : _root_.Go.ChangeSpec) : _root_.Go.OpenSpec := { _root_.Go.OpenSpec.ofChange s with cond := some uptoSmall }

/-- 'laws.FnExactCatalogRight', WHERE WHAT IT READS IS OF BULK AT MOST 1048576: true; the input reads as it did. -/
def fnExactCatalogRightUptoRow : OpenClaim := { program := "ytpokcbcffijheab", sum := "63d37ce9f994e8e45fbb55a998abdacd6583775c908abaef931a91d2b2f004aa", func := "loop.example/g00310/laws.FnExactCatalogRight", spec := "fnExactCatalogRight", unfollowed := true, recurses := true, apart := false, narrowed := true }
def FnExactCatalogRightUptoSaid : Prop := fnExactCatalogRightUptoRow.holds Try.pinned (OpenSpec.upto fnExactCatalogRightSpec)

/-- 'laws.FnExactLogAdd', WHERE WHAT IT READS IS OF BULK AT MOST 1048576: true; the input reads as it did. -/
def fnExactLogAddUptoRow : OpenClaim := { program := "ytpokcbcffijheab", sum := "63d37ce9f994e8e45fbb55a998abdacd6583775c908abaef931a91d2b2f004aa", func := "loop.example/g00310/laws.FnExactLogAdd", spec := "fnExactLogAdd", unfollowed := true, recurses := true, apart := false, narrowed := true }
def FnExactLogAddUptoSaid : Prop := fnExactLogAddUptoRow.holds Try.pinned (OpenSpec.upto fnExactLogAddSpec)

/-- 'laws.FnExactLogDrop', WHERE WHAT IT READS IS OF BULK AT MOST 1048576: true; the input reads as it did. -/
def fnExactLogDropUptoRow : OpenClaim := { program := "ytpokcbcffijheab", sum := "63d37ce9f994e8e45fbb55a998abdacd6583775c908abaef931a91d2b2f004aa", func := "loop.example/g00310/laws.FnExactLogDrop", spec := "fnExactLogDrop", apart := false, narrowed := true }
def FnExactLogDropUptoSaid : Prop := fnExactLogDropUptoRow.holds Try.pinned (OpenSpec.upto fnExactLogDropSpec)

/-- 'laws.FnExactLogOf', WHERE WHAT IT READS IS OF BULK AT MOST 1048576: true; the input reads as it did. -/
def fnExactLogOfUptoRow : OpenClaim := { program := "ytpokcbcffijheab", sum := "63d37ce9f994e8e45fbb55a998abdacd6583775c908abaef931a91d2b2f004aa", func := "loop.example/g00310/laws.FnExactLogOf", spec := "fnExactLogOf", unfollowed := true, recurses := true, apart := false, narrowed := true }
def FnExactLogOfUptoSaid : Prop := fnExactLogOfUptoRow.holds Try.pinned (OpenSpec.upto fnExactLogOfSpec)

end Rows
end Go.Proofs.Ytpokcbcffijheab
