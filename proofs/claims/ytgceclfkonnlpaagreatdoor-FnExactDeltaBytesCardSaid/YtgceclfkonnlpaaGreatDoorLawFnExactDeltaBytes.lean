/-
  DeltaBytes: at every delta the program answers as the specification; it writes into no argument.
-/
import Derived.Test.YtgceclfkonnlpaaGreatDoorCards
import Derived.Test.YtgceclfkonnlpaaGreatDoorTie
import Derived.Test.YtgceclfkonnlpaaGreatDoorDeltaBLaw
import Derived.Test.YtgceclfkonnlpaaGreatDoorTabTz
import Derived.Test.YtgceclfkonnlpaaGreatDoorTabPw
import Derived.Test.YtgceclfkonnlpaaGreatDoorLaid
import Derived.WalkKit
import Derived.ProofKit
import Derived.OpenShut
import Derived.ShutString
import Derived.ChangeOld
import Derived.Below
import Derived.LaidHandle
import Derived.LaidLaws
import Derived.Deep.DeepHandedRow
import Derived.SevenTiedAt
import Derived.Carry
namespace Go.Proofs.YtgceclfkonnlpaaGreatDoor
open Go.ChangeShapes Go.WideShapes Go.ChangeAt Go.RowKit
open Go.ChangeMaps (open_string shut_string)
set_option linter.unusedVariables false

theorem fnExactDeltaBytes_own : ownKnob Tryz.prog.godebug = none := by kernel_rfl
theorem fnExactDeltaBytes_laidOut : laidOutB Tryz.prog = true := by kernel_rfl
set_option maxRecDepth 100000 in
theorem fnExactDeltaBytes_contract (H : Type) (enc : TypeId × Value → H) (W : World) (base : Nat) (args : Array Value) (ds gs : List (DataW H)) (before : List MemPlace)
    (hval : ∀ (j : Nat) t v, Tryz.f4.params[j]? = some t → args[j]? = some v → Value.okWide Tryz.prog W .any base t v)
    (hW : DataW.Whole enc Tryz.prog Tryz.f4.params.toList Rows.fnExactDeltaBytesSpec.vars false W args.toList ds gs before) (hL : laidMetH Tryz.prog Rows.fnExactDeltaBytesRow.laid W) (hS : W.ShapedOpen Tryz.prog) :
    Calls Tryz.prog 4 args W fun e W' => ∃ v, e = .returned v ∧ Rows.fnExactDeltaBytesSpec.post enc Tryz.prog Tryz.f4 false true false false W args v W' := by
  have hW' := hW
  obtain ⟨p, q, hA0, hV, rfl, hfz, hnd⟩ := hW
  have hA : DataW.TrodAll enc Tryz.prog W 0 (fun _ => true) true Tryz.f4.params.toList args.toList ds p := hA0
  rw [Tryz.params4] at hA hval
  obtain ⟨v0, vs0, d0, ds0, p0, q0, hargs, rfl, rfl, h0, r0⟩ := trodAll_cons hA
  obtain ⟨rfl, rfl, rfl⟩ := trodAll_nil r0
  obtain rfl : args = #[v0] := by cases args; simp_all
  obtain ⟨rfl, rfl⟩ := trodVars_none hV
  obtain ⟨cs0, rfl, -⟩ := okWide_struct Tryz.underlying25 (hval 0 25 v0 rfl rfl)
  have k0 := h0
  have lt0 : ∀ x ∈ p0, x.block < W.heap.size := by obtain ⟨m, hm⟩ := k0; exact DataW.trod_lt m _ _ _ hm
  obtain ⟨a0, len0, cap0, ss0, b0, m0, c0, fs0, rfl, row0, ok0, rowf0, okf0⟩ : ∃ a n c ss b m d fs, cs0 = #[.slice a n c, .slice b m d] ∧ M.Strs W a n c ss ∧ (∀ s ∈ ss, s.size ≤ maxLen) ∧ M.Files W b m d fs ∧ ∀ f ∈ fs, M.fok f := by
    obtain ⟨fuel, hf⟩ := h0
    obtain ⟨a, n, c, ss, b, m, d, fs, hcs, h1, h2, h3, h4⟩ := M.open_delta Tryz.underlying25 (by kernel_rfl) rfl rfl (by kernel_rfl) (by kernel_rfl) Tryz.underlying22 Tryz.underlying9 (by kernel_rfl)
      Tryz.underlying23 Tryz.underlying73 (by kernel_rfl) rfl rfl rfl rfl rfl (by kernel_rfl) (by kernel_rfl) (by kernel_rfl) (by kernel_rfl) (by kernel_rfl)
      Tryz.underlying9 Tryz.underlying4 Tryz.underlying2 Tryz.underlying2 Tryz.underlying9 hf
    exact ⟨a, n, c, ss, b, m, d, fs, Array.toList_inj.1 hcs, h1, h2, h3, h4⟩
  clear hA0
  refine (fnExactDeltaBytes_walk a0 len0 cap0 ss0 b0 m0 c0 fs0 W row0 ok0 rowf0 okf0 (M.ml_open hS) (M.pw_laid hL rfl) (M.tz_laid hL rfl)).mono fun e W' ⟨he, bel⟩ => ?_
  subst he
  exact ⟨_, rfl, _, _, _, [], _, [], hW', trodAll_mk1 (shut_bool Tryz.underlying4 _), (trodAll_cons_mk (Below.trod fnExactDeltaBytes_laidOut (by kernel_rfl) (of_decide_eq_true (by kernel_rfl)) k0 bel lt0) trodAll_mk0), rfl, bel.frame _, fun h => by cases h⟩

theorem fnExactDeltaBytes_met (os : Os) : laidMetH Tryz.prog Rows.fnExactDeltaBytesRow.laid ((({ World.holding Tryz.prog os ⟨#[], #[], []⟩ with heap := ((((((World.holding Tryz.prog os ⟨#[], #[], []⟩).heap).modify 5 (M.laidIn Rows.laid_math_bits_deBruijn32tab)).modify 6 (M.laidIn Rows.laid_math_bits_deBruijn64tab)).modify 2 (M.laidIn Rows.laid_internal_strconv_uint64pow10)).modify 4 (M.laidIn Rows.laid_unicode_utf8_acceptRanges)).modify 3 (M.laidIn Rows.laid_unicode_utf8_first) } : World)).forCall (fun _ _ => 0) ⟨#[], #[.agg #[.slice none 0 0, .slice none 0 0]], []⟩).memory :=
  laidMetH_of_parts (laidMet_of_run' 20 (by kernel_rfl) (by kernel_rfl)) (by kernel_rfl)
theorem fnExactDeltaBytes_reads (os : Os) {H : Type} (enc : TypeId × Value → H) : ∃ places, DataW.whole enc Tryz.prog ((({ World.holding Tryz.prog os ⟨#[], #[], []⟩ with heap := ((((((World.holding Tryz.prog os ⟨#[], #[], []⟩).heap).modify 5 (M.laidIn Rows.laid_math_bits_deBruijn32tab)).modify 6 (M.laidIn Rows.laid_math_bits_deBruijn64tab)).modify 2 (M.laidIn Rows.laid_internal_strconv_uint64pow10)).modify 4 (M.laidIn Rows.laid_unicode_utf8_acceptRanges)).modify 3 (M.laidIn Rows.laid_unicode_utf8_first) } : World)).forCall (fun _ _ => 0) ⟨#[], #[.agg #[.slice none 0 0, .slice none 0 0]], []⟩).memory Tryz.f4.params.toList Rows.fnExactDeltaBytesSpec.vars false (#[.agg #[.slice none 0 0, .slice none 0 0]] : Array Value).toList 8 = some ([.agg [.nil, .nil]], [], places) :=
  ⟨[], by kernel_rfl⟩

set_option maxRecDepth 100000 in
theorem fnExactDeltaBytes_lifted (os : Os) (started : os.Started) (H : Type) (enc : TypeId × Value → H) (F : Stop.Interp) :
    ReturnsInHanded {} Tryz.checked os 4 .any ((OpenSpec.ofChange Rows.fnExactDeltaBytesSpec).preRow enc Tryz.prog Tryz.f4 Rows.fnExactDeltaBytesRow.domain false Rows.fnExactDeltaBytesRow.laid) (((OpenSpec.ofChange Rows.fnExactDeltaBytesSpec).at F).post enc Tryz.prog Tryz.f4 false true false false) := by
  obtain ⟨places, hx⟩ := fnExactDeltaBytes_reads os enc
  refine returnsInHanded_of_row (C := Tryz.checked) (s := OpenSpec.ofChange Rows.fnExactDeltaBytesSpec) fnExactDeltaBytes_own started (by kernel_rfl) Tryz.func4
    (witness_row_at (enc := enc) (C := Tryz.checked) false ({ World.holding Tryz.prog os ⟨#[], #[], []⟩ with heap := ((((((World.holding Tryz.prog os ⟨#[], #[], []⟩).heap).modify 5 (M.laidIn Rows.laid_math_bits_deBruijn32tab)).modify 6 (M.laidIn Rows.laid_math_bits_deBruijn64tab)).modify 2 (M.laidIn Rows.laid_internal_strconv_uint64pow10)).modify 4 (M.laidIn Rows.laid_unicode_utf8_acceptRanges)).modify 3 (M.laidIn Rows.laid_unicode_utf8_first) } : World) #[.agg #[.slice none 0 0, .slice none 0 0]] rfl (by kernel_rfl) (by kernel_rfl) (by kernel_rfl)
      (OpenSpec.preRow_of_cond 8 hx (by kernel_rfl) (fun k hk => by cases hk) (by kernel_rfl) (fnExactDeltaBytes_met os))) ?_
  intro W base args ds gs before hval hW _ _ _ hL hS _
  exact fnExactDeltaBytes_contract H enc W base args ds gs before hval hW hL hS

theorem fnExactDeltaBytes_said : Rows.FnExactDeltaBytesSaid :=
  OpenClaim.holds_of_cond 4 Tryz.f4 rfl rfl rfl rfl rfl rfl rfl ⟨rfl, rfl, rfl, rfl, rfl⟩ rfl rfl rfl rfl rfl (by kernel_rfl) Tryz.func4 (by kernel_rfl)
    (of_decide_eq_true (by kernel_rfl)) (by unfold Func.isWrapper; rw [if_neg (of_decide_eq_false (by kernel_rfl))]; exact ⟨rfl, rfl⟩)
    (fun os started H enc _ F => by rw [OpenClaim.pre_eq_preRow]; exact fnExactDeltaBytes_lifted os started H enc F)

theorem fnExactDeltaBytes_plain (f : FuncId) (fn : Func) (hf : Tryz.pinned.checked.prog.funcNamed Rows.fnExactDeltaBytesRow.func = some f) (hfn : Tryz.pinned.checked.prog.funcs[f]? = some fn) :
    true = Tryz.pinned.checked.prog.looks [] ∧ ∀ (j : Nat) t, fn.params[j]? = some t → Tryz.pinned.checked.prog.wantsStandIn t = false := by
  obtain rfl : f = 4 := Option.some.inj ((show Tryz.prog.funcNamed Rows.fnExactDeltaBytesRow.func = some 4 by kernel_rfl).symm.trans hf) |>.symm
  obtain rfl : fn = Tryz.f4 := (Option.some.inj (Tryz.func4.symm.trans hfn)).symm
  refine ⟨by kernel_rfl, fun j t ht => ?_⟩
  rw [Tryz.params4] at ht
  have hm : t = 25 := by simpa using Array.mem_of_getElem? ht
  rcases hm with rfl
  · exact (show Tryz.prog.wantsStandIn 25 = false by kernel_rfl)

theorem fnExactDeltaBytes_card : Rows.FnExactDeltaBytesCardSaid :=
  Claim7.holds_tied_plain_at .later [] _ _ _ _ fnExactDeltaBytes_said (fun _ h => by cases h) (by kernel_rfl) (fun _ h => by cases h) fnExactDeltaBytes_row_tie rfl ⟨rfl, rfl⟩ (by kernel_rfl) rfl fnExactDeltaBytes_plain (by kernel_rfl)
#print axioms fnExactDeltaBytes_card
end Go.Proofs.YtgceclfkonnlpaaGreatDoor
