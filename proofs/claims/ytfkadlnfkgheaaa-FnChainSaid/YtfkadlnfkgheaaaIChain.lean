/-
  What ChainOf of the program does.
-/
import Derived.Test.YtfkadlnfkgheaaaIChainBy
namespace Go.Proofs.Ytfkadlnfkgheaaa
open Go.RowKit

set_option maxRecDepth 100000 in
set_option maxHeartbeats 800000 in
theorem iChainOf_any (w : World) (a : Option Addr) (len cap : Nat) (ms : List M.MkD) (id : Int) (h : M.Mks w a len cap ms) :
    Calls Try.prog 9 #[.slice a len cap, .int .i64 id] w fun e w' => ∃ v zs, e = .returned v ∧ M.OwnN w' w.heap.size v zs ∧ ((M.MarksR ms ∧ zs = M.chain ms id) ∨ (¬ M.MarksR ms ∧ zs = [])) ∧ Below w.heap.size w w' := by
  have HM := M.hidm h
  clear h
  go_enter Try.func9, Try.ntmps9
  go_wp2_with fail
  refine (iMarksR_any w a len cap ms HM.out).mono ?_
  rintro e w1 ⟨v, rfl, hv, hb1⟩
  have HV := M.hidm hv
  have B1 := M.hidm hb1
  clear hv hb1
  cases v
  · have HN : Hid (¬ M.MarksR ms) := fun h => by have := HV.out.2 h; cases this
    go_wp2
    go_ret
    exact ⟨_, [], rfl, M.OwnN.nil _ _, .inr ⟨HN.out, rfl⟩, B1.out⟩
  · have HY := M.hidm (HV.out.1 rfl)
    go_wp2_with fail
    refine (iChainBy_any w1 a len cap ms id (HM.out.below B1.out) HY.out).mono ?_
    rintro e w2 ⟨v, rfl, ho, hb2⟩
    have HO := M.hidm (ho.down B1.out.size)
    have B2 := M.hidm (M.sm B1.out hb2)
    clear ho hb2
    go_wp2
    go_ret
    exact ⟨_, _, rfl, HO.out, .inl ⟨HY.out, rfl⟩, B2.out⟩
end Go.Proofs.Ytfkadlnfkgheaaa
