/-
  DeltaRight: at every delta the program answers as the specification; it writes into no argument.
-/
import Derived.Test.YtgceclfkonnlpaaDoorCards
import Derived.Test.YtgceclfkonnlpaaDoorTie
import Derived.Test.YtgceclfkonnlpaaDoorDeltaRLaw
import Derived.Test.YtgceclfkonnlpaaDoorLaid
import Derived.WalkKit
import Derived.ProofKit
import Derived.OpenShut
import Derived.ShutString
import Derived.ChangeOld
import Derived.Below
import Derived.LaidHandle
import Derived.LaidLaws
import Derived.Deep.DeepHandedRow
import Derived.SevenTiedAt
import Derived.Carry
namespace Go.Proofs.YtgceclfkonnlpaaDoor
open Go.ChangeShapes Go.WideShapes Go.ChangeAt Go.RowKit
open Go.ChangeMaps (open_string shut_string)
set_option linter.unusedVariables false

theorem fnExactDeltaRight_own : ownKnob Tryd.prog.godebug = none := by kernel_rfl
theorem fnExactDeltaRight_laidOut : laidOutB Tryd.prog = true := by kernel_rfl
set_option maxRecDepth 100000 in
theorem fnExactDeltaRight_contract (H : Type) (enc : TypeId × Value → H) (W : World) (base : Nat) (args : Array Value) (ds gs : List (DataW H)) (before : List MemPlace)
    (hval : ∀ (j : Nat) t v, Tryd.f3.params[j]? = some t → args[j]? = some v → Value.okWide Tryd.prog W .any base t v)
    (hW : DataW.Whole enc Tryd.prog Tryd.f3.params.toList Rows.fnExactDeltaRightSpec.vars false W args.toList ds gs before) (hL : laidMetH Tryd.prog Rows.fnExactDeltaRightRow.laid W) (hS : W.ShapedOpen Tryd.prog) :
    Calls Tryd.prog 3 args W fun e W' => ∃ v, e = .returned v ∧ Rows.fnExactDeltaRightSpec.post enc Tryd.prog Tryd.f3 false true false false W args v W' := by
  have hW' := hW
  obtain ⟨p, q, hA0, hV, rfl, hfz, hnd⟩ := hW
  have hA : DataW.TrodAll enc Tryd.prog W 0 (fun _ => true) true Tryd.f3.params.toList args.toList ds p := hA0
  rw [Tryd.params3] at hA hval
  obtain ⟨v0, vs0, d0, ds0, p0, q0, hargs, rfl, rfl, h0, r0⟩ := trodAll_cons hA
  obtain ⟨rfl, rfl, rfl⟩ := trodAll_nil r0
  obtain rfl : args = #[v0] := by cases args; simp_all
  obtain ⟨rfl, rfl⟩ := trodVars_none hV
  obtain ⟨cs0, rfl, -⟩ := okWide_struct Tryd.underlying25 (hval 0 25 v0 rfl rfl)
  have k0 := h0
  have lt0 : ∀ x ∈ p0, x.block < W.heap.size := by obtain ⟨m, hm⟩ := k0; exact DataW.trod_lt m _ _ _ hm
  obtain ⟨a0, len0, cap0, ss0, b0, m0, c0, fs0, rfl, row0, ok0, rowf0, okf0⟩ : ∃ a n c ss b m d fs, cs0 = #[.slice a n c, .slice b m d] ∧ M.Strs W a n c ss ∧ (∀ s ∈ ss, s.size ≤ maxLen) ∧ M.Files W b m d fs ∧ ∀ f ∈ fs, M.fok f := by
    obtain ⟨fuel, hf⟩ := h0
    obtain ⟨a, n, c, ss, b, m, d, fs, hcs, h1, h2, h3, h4⟩ := M.open_delta Tryd.underlying25 (by kernel_rfl) rfl rfl (by kernel_rfl) (by kernel_rfl) Tryd.underlying22 Tryd.underlying9 (by kernel_rfl)
      Tryd.underlying23 Tryd.underlying55 (by kernel_rfl) rfl rfl rfl rfl rfl (by kernel_rfl) (by kernel_rfl) (by kernel_rfl) (by kernel_rfl) (by kernel_rfl)
      Tryd.underlying9 Tryd.underlying4 Tryd.underlying2 Tryd.underlying2 Tryd.underlying9 hf
    exact ⟨a, n, c, ss, b, m, d, fs, Array.toList_inj.1 hcs, h1, h2, h3, h4⟩
  clear hA0
  refine (fnExactDeltaRight_walk a0 len0 cap0 ss0 b0 m0 c0 fs0 W row0 ok0 rowf0 okf0 (M.ml_open hS)).mono fun e W' ⟨he, bel⟩ => ?_
  subst he
  exact ⟨_, rfl, _, _, _, [], _, [], hW', trodAll_mk1 (shut_bool Tryd.underlying4 _), (trodAll_cons_mk (Below.trod fnExactDeltaRight_laidOut (by kernel_rfl) (of_decide_eq_true (by kernel_rfl)) k0 bel lt0) trodAll_mk0), rfl, bel.frame _, fun h => by cases h⟩

theorem fnExactDeltaRight_met (os : Os) : laidMetH Tryd.prog Rows.fnExactDeltaRightRow.laid ((({ World.holding Tryd.prog os ⟨#[], #[], []⟩ with heap := (((World.holding Tryd.prog os ⟨#[], #[], []⟩).heap).modify 2 (M.laidIn Rows.laid_unicode_utf8_acceptRanges)).modify 1 (M.laidIn Rows.laid_unicode_utf8_first) } : World)).forCall (fun _ _ => 0) ⟨#[], #[.agg #[.slice none 0 0, .slice none 0 0]], []⟩).memory :=
  laidMetH_of_parts (laidMet_of_run' 20 (by kernel_rfl) (by kernel_rfl)) (by kernel_rfl)
theorem fnExactDeltaRight_reads (os : Os) {H : Type} (enc : TypeId × Value → H) : ∃ places, DataW.whole enc Tryd.prog ((({ World.holding Tryd.prog os ⟨#[], #[], []⟩ with heap := (((World.holding Tryd.prog os ⟨#[], #[], []⟩).heap).modify 2 (M.laidIn Rows.laid_unicode_utf8_acceptRanges)).modify 1 (M.laidIn Rows.laid_unicode_utf8_first) } : World)).forCall (fun _ _ => 0) ⟨#[], #[.agg #[.slice none 0 0, .slice none 0 0]], []⟩).memory Tryd.f3.params.toList Rows.fnExactDeltaRightSpec.vars false (#[.agg #[.slice none 0 0, .slice none 0 0]] : Array Value).toList 8 = some ([.agg [.nil, .nil]], [], places) :=
  ⟨[], by kernel_rfl⟩

set_option maxRecDepth 100000 in
theorem fnExactDeltaRight_lifted (os : Os) (started : os.Started) (H : Type) (enc : TypeId × Value → H) (F : Stop.Interp) :
    ReturnsInHanded {} Tryd.checked os 3 .any ((OpenSpec.ofChange Rows.fnExactDeltaRightSpec).preRow enc Tryd.prog Tryd.f3 Rows.fnExactDeltaRightRow.domain false Rows.fnExactDeltaRightRow.laid) (((OpenSpec.ofChange Rows.fnExactDeltaRightSpec).at F).post enc Tryd.prog Tryd.f3 false true false false) := by
  obtain ⟨places, hx⟩ := fnExactDeltaRight_reads os enc
  refine returnsInHanded_of_row (C := Tryd.checked) (s := OpenSpec.ofChange Rows.fnExactDeltaRightSpec) fnExactDeltaRight_own started (by kernel_rfl) Tryd.func3
    (witness_row_at (enc := enc) (C := Tryd.checked) false ({ World.holding Tryd.prog os ⟨#[], #[], []⟩ with heap := (((World.holding Tryd.prog os ⟨#[], #[], []⟩).heap).modify 2 (M.laidIn Rows.laid_unicode_utf8_acceptRanges)).modify 1 (M.laidIn Rows.laid_unicode_utf8_first) } : World) #[.agg #[.slice none 0 0, .slice none 0 0]] rfl (by kernel_rfl) (by kernel_rfl) (by kernel_rfl)
      (OpenSpec.preRow_of_cond 8 hx (by kernel_rfl) (fun k hk => by cases hk) (by kernel_rfl) (fnExactDeltaRight_met os))) ?_
  intro W base args ds gs before hval hW _ _ _ hL hS _
  exact fnExactDeltaRight_contract H enc W base args ds gs before hval hW hL hS

theorem fnExactDeltaRight_said : Rows.FnExactDeltaRightSaid :=
  OpenClaim.holds_of_cond 3 Tryd.f3 rfl rfl rfl rfl rfl rfl rfl ⟨rfl, rfl, rfl, rfl, rfl⟩ rfl rfl rfl rfl rfl (by kernel_rfl) Tryd.func3 (by kernel_rfl)
    (of_decide_eq_true (by kernel_rfl)) (by unfold Func.isWrapper; rw [if_neg (of_decide_eq_false (by kernel_rfl))]; exact ⟨rfl, rfl⟩)
    (fun os started H enc _ F => by rw [OpenClaim.pre_eq_preRow]; exact fnExactDeltaRight_lifted os started H enc F)

theorem fnExactDeltaRight_plain (f : FuncId) (fn : Func) (hf : Tryd.pinned.checked.prog.funcNamed Rows.fnExactDeltaRightRow.func = some f) (hfn : Tryd.pinned.checked.prog.funcs[f]? = some fn) :
    false = Tryd.pinned.checked.prog.looks [] ∧ ∀ (j : Nat) t, fn.params[j]? = some t → Tryd.pinned.checked.prog.wantsStandIn t = false := by
  obtain rfl : f = 3 := Option.some.inj ((show Tryd.prog.funcNamed Rows.fnExactDeltaRightRow.func = some 3 by kernel_rfl).symm.trans hf) |>.symm
  obtain rfl : fn = Tryd.f3 := (Option.some.inj (Tryd.func3.symm.trans hfn)).symm
  refine ⟨by kernel_rfl, fun j t ht => ?_⟩
  rw [Tryd.params3] at ht
  have hm : t = 25 := by simpa using Array.mem_of_getElem? ht
  rcases hm with rfl
  · exact (show Tryd.prog.wantsStandIn 25 = false by kernel_rfl)

theorem fnExactDeltaRight_card : Rows.FnExactDeltaRightCardSaid :=
  Claim7.holds_tied_plain_at .later [] _ _ _ _ fnExactDeltaRight_said (fun _ h => by cases h) (by kernel_rfl) (fun _ h => by cases h) fnExactDeltaRight_row_tie rfl ⟨rfl, rfl⟩ (by kernel_rfl) rfl fnExactDeltaRight_plain (by kernel_rfl)
#print axioms fnExactDeltaRight_card
end Go.Proofs.YtgceclfkonnlpaaDoor
