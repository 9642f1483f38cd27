/-
  DeltaRead: at every text the program answers as the specification, field by field; its answer owns its memory, behind another call too; nothing that was there is written.
-/
import Derived.Test.YtephjmlcbpfnaaaGreatDoorCards
import Derived.Test.YtephjmlcbpfnaaaGreatDoorTie
import Derived.Test.YtephjmlcbpfnaaaGreatDoorPart25
import Derived.Test.YtephjmlcbpfnaaaGreatDoorTabTz
import Derived.Test.YtephjmlcbpfnaaaGreatDoorTabPw
import Derived.Test.YtephjmlcbpfnaaaGreatDoorTabErr
import Derived.Test.YtephjmlcbpfnaaaGreatDoorLaid
import Derived.WalkKit
import Derived.ProofKit
import Derived.OpenShut
import Derived.ShutString
import Derived.ChangeOld
import Derived.Below
import Derived.LaidHandle
import Derived.LaidLaws
import Derived.Deep.DeepHandedRow
import Derived.SevenTiedAt
import Derived.Carry
namespace Go.Proofs.YtephjmlcbpfnaaaGreatDoor
open Go.ChangeShapes Go.WideShapes Go.ChangeAt Go.RowKit
open Go.ChangeMaps (open_string shut_string)
set_option linter.unusedVariables false

theorem fnExactDeltaRead_own : ownKnob Tryz.prog.godebug = none := by kernel_rfl
theorem fnExactDeltaRead_laidOut : laidOutB Tryz.prog = true := by kernel_rfl
set_option maxRecDepth 100000 in
theorem fnExactDeltaRead_contract (H : Type) (enc : TypeId × Value → H) (W : World) (base : Nat) (args : Array Value) (ds gs : List (DataW H)) (before : List MemPlace)
    (hval : ∀ (j : Nat) t v, Tryz.f5.params[j]? = some t → args[j]? = some v → Value.okWide Tryz.prog W .any base t v)
    (hW : DataW.Whole enc Tryz.prog Tryz.f5.params.toList Rows.fnExactDeltaReadSpec.vars false W args.toList ds gs before) (hL : laidMetH Tryz.prog Rows.fnExactDeltaReadRow.laid W) (hS : W.ShapedOpen Tryz.prog) :
    Calls Tryz.prog 5 args W fun e W' => ∃ v, e = .returned v ∧ Rows.fnExactDeltaReadSpec.post enc Tryz.prog Tryz.f5 false true false false W args v W' := by
  have hW' := hW
  obtain ⟨p, q, hA0, hV, rfl, hfz, hnd⟩ := hW
  have hA : DataW.TrodAll enc Tryz.prog W 0 (fun _ => true) true Tryz.f5.params.toList args.toList ds p := hA0
  rw [Tryz.params5] at hA hval
  obtain ⟨v0, vs0, d0, ds0, p0, q0, hargs, rfl, rfl, h0, r0⟩ := trodAll_cons hA
  obtain ⟨rfl, rfl, rfl⟩ := trodAll_nil r0
  obtain rfl : args = #[v0] := by cases args; simp_all
  obtain ⟨rfl, rfl⟩ := trodVars_none hV
  obtain ⟨a0, rfl, rfl, rfl, w0⟩ := open_string Tryz.underlying9 (hval 0 9 v0 rfl rfl) h0
  clear hA0
  simp only [List.append_nil] at hW'
  refine (fnExactDeltaRead_walk a0 W w0 (M.ml_open hS) (M.pw_laid hL rfl) (M.tz_laid hL rfl) (M.err_laid hL rfl)).mono fun e W' ⟨he, bel⟩ => ?_
  subst he
  exact ⟨_, rfl, _, _, _, [], _, [], hW', trodAll_mk1 (shut_bool Tryz.underlying4 _), (trodAll_cons_mk (shut_string Tryz.underlying9 w0) trodAll_mk0), rfl, bel.frame _, fun h => by cases h⟩

theorem fnExactDeltaRead_met (os : Os) : laidMetH Tryz.prog Rows.fnExactDeltaReadRow.laid ((({ World.holding Tryz.prog os ⟨#[], #[], []⟩ with heap := (((((((World.holding Tryz.prog os ⟨#[], #[], []⟩).heap).modify 5 (M.laidIn Rows.laid_math_bits_deBruijn32tab)).modify 6 (M.laidIn Rows.laid_math_bits_deBruijn64tab)).modify 2 (M.laidIn Rows.laid_internal_strconv_uint64pow10)).modify 4 (M.laidIn Rows.laid_unicode_utf8_acceptRanges)).modify 1 M.errIn).modify 3 (M.laidIn Rows.laid_unicode_utf8_first) } : World)).forCall (fun _ _ => 0) ⟨#[], #[.string ByteArray.empty], []⟩).memory :=
  laidMetH_of_parts (laidMet_of_run' 20 (by kernel_rfl) (by kernel_rfl)) (by kernel_rfl)
theorem fnExactDeltaRead_reads (os : Os) {H : Type} (enc : TypeId × Value → H) : ∃ places, DataW.whole enc Tryz.prog ((({ World.holding Tryz.prog os ⟨#[], #[], []⟩ with heap := (((((((World.holding Tryz.prog os ⟨#[], #[], []⟩).heap).modify 5 (M.laidIn Rows.laid_math_bits_deBruijn32tab)).modify 6 (M.laidIn Rows.laid_math_bits_deBruijn64tab)).modify 2 (M.laidIn Rows.laid_internal_strconv_uint64pow10)).modify 4 (M.laidIn Rows.laid_unicode_utf8_acceptRanges)).modify 1 M.errIn).modify 3 (M.laidIn Rows.laid_unicode_utf8_first) } : World)).forCall (fun _ _ => 0) ⟨#[], #[.string ByteArray.empty], []⟩).memory Tryz.f5.params.toList Rows.fnExactDeltaReadSpec.vars false (#[.string ByteArray.empty] : Array Value).toList 8 = some ([.lit (.string [])], [], places) :=
  ⟨[], by kernel_rfl⟩

set_option maxRecDepth 100000 in
theorem fnExactDeltaRead_lifted (os : Os) (started : os.Started) (H : Type) (enc : TypeId × Value → H) (F : Stop.Interp) :
    ReturnsInHanded {} Tryz.checked os 5 .any ((OpenSpec.ofChange Rows.fnExactDeltaReadSpec).preRow enc Tryz.prog Tryz.f5 Rows.fnExactDeltaReadRow.domain false Rows.fnExactDeltaReadRow.laid) (((OpenSpec.ofChange Rows.fnExactDeltaReadSpec).at F).post enc Tryz.prog Tryz.f5 false true false false) := by
  obtain ⟨places, hx⟩ := fnExactDeltaRead_reads os enc
  refine returnsInHanded_of_row (C := Tryz.checked) (s := OpenSpec.ofChange Rows.fnExactDeltaReadSpec) fnExactDeltaRead_own started (by kernel_rfl) Tryz.func5
    (witness_row_at (enc := enc) (C := Tryz.checked) false ({ World.holding Tryz.prog os ⟨#[], #[], []⟩ with heap := (((((((World.holding Tryz.prog os ⟨#[], #[], []⟩).heap).modify 5 (M.laidIn Rows.laid_math_bits_deBruijn32tab)).modify 6 (M.laidIn Rows.laid_math_bits_deBruijn64tab)).modify 2 (M.laidIn Rows.laid_internal_strconv_uint64pow10)).modify 4 (M.laidIn Rows.laid_unicode_utf8_acceptRanges)).modify 1 M.errIn).modify 3 (M.laidIn Rows.laid_unicode_utf8_first) } : World) #[.string ByteArray.empty] rfl (by kernel_rfl) (by kernel_rfl) (by kernel_rfl)
      (OpenSpec.preRow_of_cond 8 hx (by kernel_rfl) (fun k hk => by cases hk) (by kernel_rfl) (fnExactDeltaRead_met os))) ?_
  intro W base args ds gs before hval hW _ _ _ hL hS _
  exact fnExactDeltaRead_contract H enc W base args ds gs before hval hW hL hS

theorem fnExactDeltaRead_said : Rows.FnExactDeltaReadSaid :=
  OpenClaim.holds_of_cond 5 Tryz.f5 rfl rfl rfl rfl rfl rfl rfl ⟨rfl, rfl, rfl, rfl, rfl⟩ rfl rfl rfl rfl rfl (by kernel_rfl) Tryz.func5 (by kernel_rfl)
    (of_decide_eq_true (by kernel_rfl)) (by unfold Func.isWrapper; rw [if_neg (of_decide_eq_false (by kernel_rfl))]; exact ⟨rfl, rfl⟩)
    (fun os started H enc _ F => by rw [OpenClaim.pre_eq_preRow]; exact fnExactDeltaRead_lifted os started H enc F)

theorem fnExactDeltaRead_plain (f : FuncId) (fn : Func) (hf : Tryz.pinned.checked.prog.funcNamed Rows.fnExactDeltaReadRow.func = some f) (hfn : Tryz.pinned.checked.prog.funcs[f]? = some fn) :
    true = Tryz.pinned.checked.prog.looks [] ∧ ∀ (j : Nat) t, fn.params[j]? = some t → Tryz.pinned.checked.prog.wantsStandIn t = false := by
  obtain rfl : f = 5 := Option.some.inj ((show Tryz.prog.funcNamed Rows.fnExactDeltaReadRow.func = some 5 by kernel_rfl).symm.trans hf) |>.symm
  obtain rfl : fn = Tryz.f5 := (Option.some.inj (Tryz.func5.symm.trans hfn)).symm
  refine ⟨by kernel_rfl, fun j t ht => ?_⟩
  rw [Tryz.params5] at ht
  have hm : t = 9 := by simpa using Array.mem_of_getElem? ht
  rcases hm with rfl
  · exact (show Tryz.prog.wantsStandIn 9 = false by kernel_rfl)

theorem fnExactDeltaRead_card : Rows.FnExactDeltaReadCardSaid :=
  Claim7.holds_tied_plain_at .later [] _ _ _ _ fnExactDeltaRead_said (fun _ h => by cases h) (by kernel_rfl) (fun _ h => by cases h) fnExactDeltaRead_row_tie rfl ⟨rfl, rfl⟩ (by kernel_rfl) rfl fnExactDeltaRead_plain (by kernel_rfl)
#print axioms fnExactDeltaRead_card
end Go.Proofs.YtephjmlcbpfnaaaGreatDoor
