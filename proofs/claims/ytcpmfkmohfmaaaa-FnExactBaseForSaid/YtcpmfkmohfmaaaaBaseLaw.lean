/-
  BaseFor of the program answers as that of the specification, at every slice of marks and every level.
-/
import Derived.Test.YtcpmfkmohfmaaaaMarkSW
import Derived.Test.YtcpmfkmohfmaaaaIBaseFor
import Derived.Test.YtcpmfkmohfmaaaaSBase
namespace Go.Proofs.Ytcpmfkmohfmaaaa
open Go.RowKit

set_option maxRecDepth 100000 in
set_option maxHeartbeats 1600000 in
theorem fnExactBaseFor_walk (a0 : Option Addr) (len0 cap0 : Nat) (ms0 : List M.MkD) (a1 : Int) (w : World) (h : M.Mks w a0 len0 cap0 ms0) (_ : ∀ m ∈ ms0, M.mok m) (_ : -9223372036854775808 ≤ a1) (_ : a1 ≤ 9223372036854775807) :
    Calls Try.prog 5 #[.slice a0 len0 cap0, .int .i64 a1] w fun e w' => e = .returned (.bool true) ∧ Below w.heap.size w w' := by
  have HM := M.hidm h
  clear h
  go_enter Try.func5, Try.ntmps5
  go_wp2_with fail
  refine (szMarkS_any w a0 len0 cap0 ms0 HM.out).mono ?_
  rintro e w' ⟨v, rfl, hv, hv2, rfl⟩
  by_cases hneg : v < 0
  · go_wp2
    go_ret
    exact ⟨rfl, Below.refl _ _⟩
  have hl := hv (by omega)
  clear hv
  go_wp2_with fail
  refine (toMarkS_any w a0 len0 cap0 ms0 HM.out hl).mono ?_
  rintro e w1 ⟨b1, rfl, hm1, -, -, hb1⟩
  have M1 := M.hidm hm1
  have B1 := M.hidm hb1
  clear hm1 hb1
  go_wp2_with fail
  refine (sBaseFor_any w1 _ len0 len0 ms0 a1 M1.out).mono ?_
  rintro e w2 ⟨u, rfl, hu, hb⟩
  have HU := M.hidm hu
  have B2 := M.hidm (M.sm B1.out hb)
  clear hu hb
  go_wp2_with fail
  refine (toMarkS_any w2 a0 len0 cap0 ms0 (HM.out.below B2.out) hl).mono ?_
  rintro e w3 ⟨b3, rfl, hm3, -, -, hb3⟩
  have M3 := M.hidm hm3
  have B3 := M.hidm (M.sm B2.out hb3)
  clear hm3 hb3
  go_wp2_with fail
  refine (iBaseFor_any w3 _ len0 len0 ms0 a1 M3.out).mono ?_
  rintro e w4 ⟨u', rfl, hu', hb⟩
  obtain rfl : u = u' := HU.out.same hu'
  have M4 := M.hidm (M3.out.below hb)
  have B4 := M.hidm (M.sm B3.out hb)
  clear hu' hb HU
  have dd : (u != u) = false := by simp
  have dd' : (u == u) = true := by simp
  go_wp2_with fail
  refine (toMarkS_any w4 a0 len0 cap0 ms0 (HM.out.below B4.out) hl).mono ?_
  rintro e w5 ⟨b5, rfl, hm5, -, -, hb5⟩
  have M5 := M.hidm hm5
  have M4' := M.hidm (M4.out.below hb5)
  have B5 := M.hidm (M.sm B4.out hb5)
  clear hm5 hb5
  go_wp2_with fail
  refine (eqMarkS_same w5 _ _ len0 len0 len0 len0 ms0 M4'.out M5.out).mono ?_
  rintro e w6 ⟨rfl, hb6⟩
  have B6 := M.hidm (M.sm B5.out hb6)
  clear hb6
  go_wp2
  go_ret
  exact ⟨rfl, B6.out⟩
end Go.Proofs.Ytcpmfkmohfmaaaa
