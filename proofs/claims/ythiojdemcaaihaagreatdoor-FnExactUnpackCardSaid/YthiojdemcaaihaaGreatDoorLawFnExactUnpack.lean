/-
  Unpack: at every text the program answers as the specification; its answer owns its memory, behind another call too.
-/
import Derived.Test.YthiojdemcaaihaaGreatDoorCards
import Derived.Test.YthiojdemcaaihaaGreatDoorTie
import Derived.Test.YthiojdemcaaihaaGreatDoorPaxLaw
import Derived.Test.YthiojdemcaaihaaGreatDoorTabTz
import Derived.Test.YthiojdemcaaihaaGreatDoorTabPw
import Derived.Test.YthiojdemcaaihaaGreatDoorTabErr
import Derived.Test.YthiojdemcaaihaaGreatDoorLaid
import Derived.WalkKit
import Derived.ProofKit
import Derived.OpenShut
import Derived.ShutString
import Derived.ChangeOld
import Derived.Below
import Derived.LaidHandle
import Derived.LaidLaws
import Derived.Deep.DeepHandedRow
import Derived.SevenTiedAt
import Derived.Carry
namespace Go.Proofs.YthiojdemcaaihaaGreatDoor
open Go.ChangeShapes Go.WideShapes Go.ChangeAt Go.RowKit
open Go.ChangeMaps (open_string shut_string)
set_option linter.unusedVariables false

theorem fnExactUnpack_own : ownKnob Tryz.prog.godebug = none := by kernel_rfl
theorem fnExactUnpack_laidOut : laidOutB Tryz.prog = true := by kernel_rfl
set_option maxRecDepth 100000 in
theorem fnExactUnpack_contract (H : Type) (enc : TypeId × Value → H) (W : World) (base : Nat) (args : Array Value) (ds gs : List (DataW H)) (before : List MemPlace)
    (hval : ∀ (j : Nat) t v, Tryz.f3.params[j]? = some t → args[j]? = some v → Value.okWide Tryz.prog W .any base t v)
    (hW : DataW.Whole enc Tryz.prog Tryz.f3.params.toList Rows.fnExactUnpackSpec.vars false W args.toList ds gs before) (hL : laidMetH Tryz.prog Rows.fnExactUnpackRow.laid W) (hS : W.ShapedOpen Tryz.prog) :
    Calls Tryz.prog 3 args W fun e W' => ∃ v, e = .returned v ∧ Rows.fnExactUnpackSpec.post enc Tryz.prog Tryz.f3 false true false false W args v W' := by
  have hW' := hW
  obtain ⟨p, q, hA0, hV, rfl, hfz, hnd⟩ := hW
  have hA : DataW.TrodAll enc Tryz.prog W 0 (fun _ => true) true Tryz.f3.params.toList args.toList ds p := hA0
  rw [Tryz.params3] at hA hval
  obtain ⟨v0, vs0, d0, ds0, p0, q0, hargs, rfl, rfl, h0, r0⟩ := trodAll_cons hA
  obtain ⟨rfl, rfl, rfl⟩ := trodAll_nil r0
  obtain rfl : args = #[v0] := by cases args; simp_all
  obtain ⟨rfl, rfl⟩ := trodVars_none hV
  obtain ⟨a0, rfl, rfl, rfl, w0⟩ := open_string Tryz.underlying9 (hval 0 9 v0 rfl rfl) h0
  clear hA0
  simp only [List.append_nil] at hW'
  refine (fnExactUnpack_walk a0 W w0 (M.ml_open hS) (M.pw_laid hL rfl) (M.tz_laid hL rfl) (M.err_laid hL rfl)).mono fun e W' ⟨he, bel⟩ => ?_
  subst he
  exact ⟨_, rfl, _, _, _, [], _, [], hW', trodAll_mk1 (shut_bool Tryz.underlying4 _), (trodAll_cons_mk (shut_string Tryz.underlying9 w0) trodAll_mk0), rfl, bel.frame _, fun h => by cases h⟩

theorem fnExactUnpack_met (os : Os) : laidMetH Tryz.prog Rows.fnExactUnpackRow.laid ((({ World.holding Tryz.prog os ⟨#[], #[], []⟩ with heap := (((((((World.holding Tryz.prog os ⟨#[], #[], []⟩).heap).modify 3 (M.laidIn Rows.laid_math_bits_deBruijn32tab)).modify 4 (M.laidIn Rows.laid_math_bits_deBruijn64tab)).modify 2 (M.laidIn Rows.laid_internal_strconv_uint64pow10)).modify 6 (M.laidIn Rows.laid_unicode_utf8_acceptRanges)).modify 0 M.errIn).modify 5 (M.laidIn Rows.laid_unicode_utf8_first) } : World)).forCall (fun _ _ => 0) ⟨#[], #[.string ByteArray.empty], []⟩).memory :=
  laidMetH_of_parts (laidMet_of_run' 20 (by kernel_rfl) (by kernel_rfl)) (by kernel_rfl)
theorem fnExactUnpack_reads (os : Os) {H : Type} (enc : TypeId × Value → H) : ∃ places, DataW.whole enc Tryz.prog ((({ World.holding Tryz.prog os ⟨#[], #[], []⟩ with heap := (((((((World.holding Tryz.prog os ⟨#[], #[], []⟩).heap).modify 3 (M.laidIn Rows.laid_math_bits_deBruijn32tab)).modify 4 (M.laidIn Rows.laid_math_bits_deBruijn64tab)).modify 2 (M.laidIn Rows.laid_internal_strconv_uint64pow10)).modify 6 (M.laidIn Rows.laid_unicode_utf8_acceptRanges)).modify 0 M.errIn).modify 5 (M.laidIn Rows.laid_unicode_utf8_first) } : World)).forCall (fun _ _ => 0) ⟨#[], #[.string ByteArray.empty], []⟩).memory Tryz.f3.params.toList Rows.fnExactUnpackSpec.vars false (#[.string ByteArray.empty] : Array Value).toList 8 = some ([.lit (.string [])], [], places) :=
  ⟨[], by kernel_rfl⟩

set_option maxRecDepth 100000 in
theorem fnExactUnpack_lifted (os : Os) (started : os.Started) (H : Type) (enc : TypeId × Value → H) (F : Stop.Interp) :
    ReturnsInHanded {} Tryz.checked os 3 .any ((OpenSpec.ofChange Rows.fnExactUnpackSpec).preRow enc Tryz.prog Tryz.f3 Rows.fnExactUnpackRow.domain false Rows.fnExactUnpackRow.laid) (((OpenSpec.ofChange Rows.fnExactUnpackSpec).at F).post enc Tryz.prog Tryz.f3 false true false false) := by
  obtain ⟨places, hx⟩ := fnExactUnpack_reads os enc
  refine returnsInHanded_of_row (C := Tryz.checked) (s := OpenSpec.ofChange Rows.fnExactUnpackSpec) fnExactUnpack_own started (by kernel_rfl) Tryz.func3
    (witness_row_at (enc := enc) (C := Tryz.checked) false ({ World.holding Tryz.prog os ⟨#[], #[], []⟩ with heap := (((((((World.holding Tryz.prog os ⟨#[], #[], []⟩).heap).modify 3 (M.laidIn Rows.laid_math_bits_deBruijn32tab)).modify 4 (M.laidIn Rows.laid_math_bits_deBruijn64tab)).modify 2 (M.laidIn Rows.laid_internal_strconv_uint64pow10)).modify 6 (M.laidIn Rows.laid_unicode_utf8_acceptRanges)).modify 0 M.errIn).modify 5 (M.laidIn Rows.laid_unicode_utf8_first) } : World) #[.string ByteArray.empty] rfl (by kernel_rfl) (by kernel_rfl) (by kernel_rfl)
      (OpenSpec.preRow_of_cond 8 hx (by kernel_rfl) (fun k hk => by cases hk) (by kernel_rfl) (fnExactUnpack_met os))) ?_
  intro W base args ds gs before hval hW _ _ _ hL hS _
  exact fnExactUnpack_contract H enc W base args ds gs before hval hW hL hS

theorem fnExactUnpack_said : Rows.FnExactUnpackSaid :=
  OpenClaim.holds_of_cond 3 Tryz.f3 rfl rfl rfl rfl rfl rfl rfl ⟨rfl, rfl, rfl, rfl, rfl⟩ rfl rfl rfl rfl rfl (by kernel_rfl) Tryz.func3 (by kernel_rfl)
    (of_decide_eq_true (by kernel_rfl)) (by unfold Func.isWrapper; rw [if_neg (of_decide_eq_false (by kernel_rfl))]; exact ⟨rfl, rfl⟩)
    (fun os started H enc _ F => by rw [OpenClaim.pre_eq_preRow]; exact fnExactUnpack_lifted os started H enc F)

theorem fnExactUnpack_plain (f : FuncId) (fn : Func) (hf : Tryz.pinned.checked.prog.funcNamed Rows.fnExactUnpackRow.func = some f) (hfn : Tryz.pinned.checked.prog.funcs[f]? = some fn) :
    true = Tryz.pinned.checked.prog.looks [] ∧ ∀ (j : Nat) t, fn.params[j]? = some t → Tryz.pinned.checked.prog.wantsStandIn t = false := by
  obtain rfl : f = 3 := Option.some.inj ((show Tryz.prog.funcNamed Rows.fnExactUnpackRow.func = some 3 by kernel_rfl).symm.trans hf) |>.symm
  obtain rfl : fn = Tryz.f3 := (Option.some.inj (Tryz.func3.symm.trans hfn)).symm
  refine ⟨by kernel_rfl, fun j t ht => ?_⟩
  rw [Tryz.params3] at ht
  have hm : t = 9 := by simpa using Array.mem_of_getElem? ht
  rcases hm with rfl
  · exact (show Tryz.prog.wantsStandIn 9 = false by kernel_rfl)

theorem fnExactUnpack_card : Rows.FnExactUnpackCardSaid :=
  Claim7.holds_tied_plain_at .later [] _ _ _ _ fnExactUnpack_said (fun _ h => by cases h) (by kernel_rfl) (fun _ h => by cases h) fnExactUnpack_row_tie rfl ⟨rfl, rfl⟩ (by kernel_rfl) rfl fnExactUnpack_plain (by kernel_rfl)
#print axioms fnExactUnpack_card
end Go.Proofs.YthiojdemcaaihaaGreatDoor
