/-
  Pack: at every list of files the program answers as the specification; it writes into no argument.
-/
import Derived.Test.YtbmbcfnlpbbapahDoorCards
import Derived.Test.YtbmbcfnlpbbapahDoorTie
import Derived.Test.YtbmbcfnlpbbapahDoorOpenFiles
import Derived.Test.YtbmbcfnlpbbapahDoorPackLaw
import Derived.Test.YtbmbcfnlpbbapahDoorTabTz
import Derived.Test.YtbmbcfnlpbbapahDoorTabPw
import Derived.Test.YtbmbcfnlpbbapahDoorLaid
import Derived.WalkKit
import Derived.ProofKit
import Derived.OpenShut
import Derived.ShutString
import Derived.ChangeOld
import Derived.Below
import Derived.LaidHandle
import Derived.LaidLaws
import Derived.Deep.DeepHandedRow
import Derived.SevenTiedAt
import Derived.Carry
namespace Go.Proofs.YtbmbcfnlpbbapahDoor
open Go.ChangeShapes Go.WideShapes Go.ChangeAt Go.RowKit
open Go.ChangeMaps (open_string shut_string)
set_option linter.unusedVariables false

theorem fnExactPack_own : ownKnob Tryd.prog.godebug = none := by kernel_rfl
theorem fnExactPack_laidOut : laidOutB Tryd.prog = true := by kernel_rfl
set_option maxRecDepth 100000 in
theorem fnExactPack_contract (H : Type) (enc : TypeId × Value → H) (W : World) (base : Nat) (args : Array Value) (ds gs : List (DataW H)) (before : List MemPlace)
    (hval : ∀ (j : Nat) t v, Tryd.f5.params[j]? = some t → args[j]? = some v → Value.okWide Tryd.prog W .any base t v)
    (hW : DataW.Whole enc Tryd.prog Tryd.f5.params.toList Rows.fnExactPackSpec.vars false W args.toList ds gs before) (hL : laidMetH Tryd.prog Rows.fnExactPackRow.laid W) (hS : W.ShapedOpen Tryd.prog) :
    Calls Tryd.prog 5 args W fun e W' => ∃ v, e = .returned v ∧ Rows.fnExactPackSpec.post enc Tryd.prog Tryd.f5 false true false false W args v W' := by
  have hW' := hW
  obtain ⟨p, q, hA0, hV, rfl, hfz, hnd⟩ := hW
  have hA : DataW.TrodAll enc Tryd.prog W 0 (fun _ => true) true Tryd.f5.params.toList args.toList ds p := hA0
  rw [Tryd.params5] at hA hval
  obtain ⟨v0, vs0, d0, ds0, p0, q0, hargs, rfl, rfl, h0, r0⟩ := trodAll_cons hA
  obtain ⟨rfl, rfl, rfl⟩ := trodAll_nil r0
  obtain rfl : args = #[v0] := by cases args; simp_all
  obtain ⟨rfl, rfl⟩ := trodVars_none hV
  obtain ⟨a0, len0, cap0, rfl⟩ := okWide_slice Tryd.underlying26 (hval 0 26 v0 rfl rfl)
  have k0 := h0
  have lt0 : ∀ x ∈ p0, x.block < W.heap.size := by obtain ⟨m, hm⟩ := k0; exact DataW.trod_lt m _ _ _ hm
  obtain ⟨fs0, row0, ok0⟩ : ∃ fs, M.Files W a0 len0 cap0 fs ∧ ∀ f ∈ fs, M.fok f := by
    obtain ⟨fuel, hf⟩ := h0
    obtain ⟨a, len, cap, fs, hcs, hfs, hok⟩ := M.open_files Tryd.underlying26 Tryd.underlying43 (by kernel_rfl) rfl rfl rfl rfl rfl (by kernel_rfl) (by kernel_rfl) (by kernel_rfl) (by kernel_rfl) (by kernel_rfl)
      Tryd.underlying9 Tryd.underlying4 Tryd.underlying2 Tryd.underlying2 Tryd.underlying9 hf
    simp [Value.cells] at hcs
    obtain ⟨rfl, rfl, rfl⟩ := hcs
    exact ⟨fs, hfs, hok⟩
  clear hA0
  refine (fnExactPack_walk a0 len0 cap0 fs0 W row0 ok0 (M.ml_open hS) (M.pw_laid hL rfl) (M.tz_laid hL rfl)).mono fun e W' ⟨he, bel⟩ => ?_
  subst he
  exact ⟨_, rfl, _, _, _, [], _, [], hW', trodAll_mk1 (shut_bool Tryd.underlying4 _), (trodAll_cons_mk (Below.trod fnExactPack_laidOut (by kernel_rfl) (of_decide_eq_true (by kernel_rfl)) k0 bel lt0) trodAll_mk0), rfl, bel.frame _, fun h => by cases h⟩

theorem fnExactPack_met (os : Os) : laidMetH Tryd.prog Rows.fnExactPackRow.laid ((({ World.holding Tryd.prog os ⟨#[], #[], []⟩ with heap := ((((((World.holding Tryd.prog os ⟨#[], #[], []⟩).heap).modify 2 (M.laidIn Rows.laid_math_bits_deBruijn32tab)).modify 3 (M.laidIn Rows.laid_math_bits_deBruijn64tab)).modify 0 (M.laidIn Rows.laid_internal_strconv_uint64pow10)).modify 5 (M.laidIn Rows.laid_unicode_utf8_acceptRanges)).modify 4 (M.laidIn Rows.laid_unicode_utf8_first) } : World)).forCall (fun _ _ => 0) ⟨#[], #[.slice none 0 0], []⟩).memory :=
  laidMetH_of_parts (laidMet_of_run' 20 (by kernel_rfl) (by kernel_rfl)) (by kernel_rfl)
theorem fnExactPack_reads (os : Os) {H : Type} (enc : TypeId × Value → H) : ∃ places, DataW.whole enc Tryd.prog ((({ World.holding Tryd.prog os ⟨#[], #[], []⟩ with heap := ((((((World.holding Tryd.prog os ⟨#[], #[], []⟩).heap).modify 2 (M.laidIn Rows.laid_math_bits_deBruijn32tab)).modify 3 (M.laidIn Rows.laid_math_bits_deBruijn64tab)).modify 0 (M.laidIn Rows.laid_internal_strconv_uint64pow10)).modify 5 (M.laidIn Rows.laid_unicode_utf8_acceptRanges)).modify 4 (M.laidIn Rows.laid_unicode_utf8_first) } : World)).forCall (fun _ _ => 0) ⟨#[], #[.slice none 0 0], []⟩).memory Tryd.f5.params.toList Rows.fnExactPackSpec.vars false (#[.slice none 0 0] : Array Value).toList 8 = some ([.nil], [], places) :=
  ⟨[], by kernel_rfl⟩

set_option maxRecDepth 100000 in
theorem fnExactPack_lifted (os : Os) (started : os.Started) (H : Type) (enc : TypeId × Value → H) (F : Stop.Interp) :
    ReturnsInHanded {} Tryd.checked os 5 .any ((OpenSpec.ofChange Rows.fnExactPackSpec).preRow enc Tryd.prog Tryd.f5 Rows.fnExactPackRow.domain false Rows.fnExactPackRow.laid) (((OpenSpec.ofChange Rows.fnExactPackSpec).at F).post enc Tryd.prog Tryd.f5 false true false false) := by
  obtain ⟨places, hx⟩ := fnExactPack_reads os enc
  refine returnsInHanded_of_row (C := Tryd.checked) (s := OpenSpec.ofChange Rows.fnExactPackSpec) fnExactPack_own started (by kernel_rfl) Tryd.func5
    (witness_row_at (enc := enc) (C := Tryd.checked) false ({ World.holding Tryd.prog os ⟨#[], #[], []⟩ with heap := ((((((World.holding Tryd.prog os ⟨#[], #[], []⟩).heap).modify 2 (M.laidIn Rows.laid_math_bits_deBruijn32tab)).modify 3 (M.laidIn Rows.laid_math_bits_deBruijn64tab)).modify 0 (M.laidIn Rows.laid_internal_strconv_uint64pow10)).modify 5 (M.laidIn Rows.laid_unicode_utf8_acceptRanges)).modify 4 (M.laidIn Rows.laid_unicode_utf8_first) } : World) #[.slice none 0 0] rfl (by kernel_rfl) (by kernel_rfl) (by kernel_rfl)
      (OpenSpec.preRow_of_cond 8 hx (by kernel_rfl) (fun k hk => by cases hk) (by kernel_rfl) (fnExactPack_met os))) ?_
  intro W base args ds gs before hval hW _ _ _ hL hS _
  exact fnExactPack_contract H enc W base args ds gs before hval hW hL hS

theorem fnExactPack_said : Rows.FnExactPackSaid :=
  OpenClaim.holds_of_cond 5 Tryd.f5 rfl rfl rfl rfl rfl rfl rfl ⟨rfl, rfl, rfl, rfl, rfl⟩ rfl rfl rfl rfl rfl (by kernel_rfl) Tryd.func5 (by kernel_rfl)
    (of_decide_eq_true (by kernel_rfl)) (by unfold Func.isWrapper; rw [if_neg (of_decide_eq_false (by kernel_rfl))]; exact ⟨rfl, rfl⟩)
    (fun os started H enc _ F => by rw [OpenClaim.pre_eq_preRow]; exact fnExactPack_lifted os started H enc F)

theorem fnExactPack_plain (f : FuncId) (fn : Func) (hf : Tryd.pinned.checked.prog.funcNamed Rows.fnExactPackRow.func = some f) (hfn : Tryd.pinned.checked.prog.funcs[f]? = some fn) :
    false = Tryd.pinned.checked.prog.looks [] ∧ ∀ (j : Nat) t, fn.params[j]? = some t → Tryd.pinned.checked.prog.wantsStandIn t = false := by
  obtain rfl : f = 5 := Option.some.inj ((show Tryd.prog.funcNamed Rows.fnExactPackRow.func = some 5 by kernel_rfl).symm.trans hf) |>.symm
  obtain rfl : fn = Tryd.f5 := (Option.some.inj (Tryd.func5.symm.trans hfn)).symm
  refine ⟨by kernel_rfl, fun j t ht => ?_⟩
  rw [Tryd.params5] at ht
  have hm : t = 26 := by simpa using Array.mem_of_getElem? ht
  rcases hm with rfl
  · exact (show Tryd.prog.wantsStandIn 26 = false by kernel_rfl)

theorem fnExactPack_card : Rows.FnExactPackCardSaid :=
  Claim7.holds_tied_plain_at .later [] _ _ _ _ fnExactPack_said (fun _ h => by cases h) (by kernel_rfl) (fun _ h => by cases h) fnExactPack_row_tie rfl ⟨rfl, rfl⟩ (by kernel_rfl) rfl fnExactPack_plain (by kernel_rfl)
#print axioms fnExactPack_card
end Go.Proofs.YtbmbcfnlpbbapahDoor
