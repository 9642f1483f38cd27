/-
  What ChainOf of the specification does.
-/
import Derived.Test.YtfkadlnfkgheaaaSChainL
namespace Go.Proofs.Ytfkadlnfkgheaaa
open Go.RowKit

set_option maxRecDepth 100000 in
set_option maxHeartbeats 800000 in
theorem sChainOf_any (w : World) (a : Option Addr) (len cap : Nat) (ms : List M.MkD) (id : Int) (h : M.Mks w a len cap ms) :
    Calls Try.prog 11 #[.slice a len cap, .int .i64 id] w fun e w' => ∃ v zs, e = .returned v ∧ M.OwnN w' w.heap.size v zs ∧ ((M.MarksR ms ∧ zs = M.chain ms id) ∨ (¬ M.MarksR ms ∧ zs = [])) ∧ Below w.heap.size w w' := by
  have HM := M.hidm h
  have HFL : Hid (len = ms.length) := h.1
  have hlm : len ≤ 9223372036854775807 := by obtain ⟨_, h1, h2, _⟩ := h; unfold maxLen at h2; omega
  have HA : Hid (∀ W, Below w.heap.size w W → M.OwnN (W.alloc (.cells #[] 2)) w.heap.size (.slice (some ⟨W.heap.size, 0, none⟩) 0 0) [] ∧ Below w.heap.size w (W.alloc (.cells #[] 2))) := fun W hW => ⟨M.NumsAt.own (zs := []) ⟨#[], heap_alloc_new _ _, Nat.le_refl _, rfl, rfl⟩ (Nat.zero_le _) hW.size, hW.alloc hW.size _⟩
  clear h
  by_cases h4 : 400 < len
  · have HN : Hid (¬ M.MarksR ms) := fun h => by have := h.1; have := HFL.out; omega
    have d1 : decide (400 < (len : Int)) = true := decide_eq_true (by omega)
    go_enter Try.func11, Try.ntmps11
    go_wp2
    go_ret
    exact ⟨_, [], rfl, (HA.out w (Below.refl _ _)).1, .inr ⟨HN.out, rfl⟩, (HA.out w (Below.refl _ _)).2⟩
  have d1 : decide (400 < (len : Int)) = false := decide_eq_false (by omega)
  go_enter Try.func11, Try.ntmps11
  go_wp2_with fail
  refine (sMarksR_any w a len cap ms HM.out).mono ?_
  rintro e w1 ⟨v, rfl, hv, hb1⟩
  have HV := M.hidm hv
  have B1 := M.hidm hb1
  clear hv hb1
  cases v
  · have HN : Hid (¬ M.MarksR ms) := fun h => by have := HV.out.2 h; cases this
    go_wp2
    go_ret
    exact ⟨_, [], rfl, (HA.out w1 B1.out).1, .inr ⟨HN.out, rfl⟩, (HA.out w1 B1.out).2⟩
  · have HY := M.hidm (HV.out.1 rfl)
    go_wp2_with fail
    refine (sChain_any w1 a len cap ms id (HM.out.below B1.out) HY.out).mono ?_
    rintro e w2 ⟨v, rfl, ho, hb2⟩
    have HO := M.hidm (ho.down B1.out.size)
    have B2 := M.hidm (M.sm B1.out hb2)
    clear ho hb2
    go_wp2
    go_ret
    exact ⟨_, _, rfl, HO.out, .inl ⟨HY.out, rfl⟩, B2.out⟩
end Go.Proofs.Ytfkadlnfkgheaaa
