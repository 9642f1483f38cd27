/-
  CatalogRight of the program answers as that of the specification, at every row of dumps.
-/
import Derived.Test.YtpokcbcffijheabSCatR
import Derived.Test.YtpokcbcffijheabDumpSS
import Derived.Test.YtpokcbcffijheabOpenDumps
namespace Go.Proofs.Ytpokcbcffijheab
open Go.RowKit

set_option maxRecDepth 100000 in
set_option maxHeartbeats 3200000 in
theorem fnExactCatalogRight_walk (a0 : Option Addr) (n c : Nat) (ds : List M.DumpD) (w : World) (h : M.Dps w a0 n c ds) (hok : ∀ d ∈ ds, M.dok d) :
    Calls Try.prog 3 #[.slice a0 n c] w fun e w' => e = .returned (.bool true) ∧ Below w.heap.size w w' := by
  have HS := M.hl h
  have HO := M.hl hok
  have HZ : Hid (∀ d ∈ ds, d.host.size ≤ maxLen) := fun d hd => (hok d hd).2.1
  clear h hok
  go_enter Try.func3, Try.ntmps3
  go_wp2_with fail
  refine (szDumpS_any _ a0 n c ds HS.out HO.out).mono ?_
  rintro e w1 ⟨v, rfl, hv1, hv2, hb⟩
  have HV2 := M.hl hv2
  have B1 := M.hl hb
  clear hv2 hb
  by_cases hneg : v < 0
  · go_wp2
    go_ret
    exact ⟨rfl, B1.out⟩
  have HL : Hid (n + M.dln ds ≤ 1048576) := by have := HV2.out (by omega); show _ ≤ _; omega
  clear HV2
  go_wp2_with fail
  refine (toDumpS_any w1 a0 n c ds (HS.out.below B1.out) HL.out).mono ?_
  rintro e w2 ⟨p1, ps, rfl, hp, hO, hb⟩
  have S2 := M.hl (hO.at_slice hp)
  have B2 := M.hl (M.sl B1.out hb)
  clear hp hO hb B1
  go_wp2_with fail
  refine (sCatR_any w2 _ n n ds S2.out HZ.out).mono ?_
  rintro e w3 ⟨v3, rfl, hv3, hb⟩
  have V3 := M.hl hv3
  have B3 := M.hl (M.sl B2.out hb)
  clear hv3 hb S2 B2
  go_wp2_with fail
  refine (toDumpS_any w3 a0 n c ds (HS.out.below B3.out) HL.out).mono ?_
  rintro e w4 ⟨q1, qs, rfl, hp, hO, hb⟩
  have S4 := M.hl (hO.at_slice hp)
  have B4 := M.hl (M.sl B3.out hb)
  clear hp hO hb B3
  go_wp2_with fail
  refine (iCatR_any w4 _ n n ds S4.out HZ.out).mono ?_
  rintro e w5 ⟨v5, rfl, hv5, hb⟩
  have S5 := M.hl (S4.out.below hb)
  have B5 := M.hl (M.sl B4.out hb)
  obtain rfl : v5 = v3 := Bool.eq_iff_iff.2 (hv5.trans V3.out.symm)
  clear hv5 hb S4 B4 V3
  have dv : (v5 != v5) = false := by simp
  go_wp2_with fail
  refine (toDumpS_any w5 a0 n c ds (HS.out.below B5.out) HL.out).mono ?_
  rintro e w6 ⟨r1, rs, rfl, hp, hO, hb⟩
  have S6 := M.hl (S5.out.below hb)
  have T6 := M.hl (hO.at_slice hp)
  have B6 := M.hl (M.sl B5.out hb)
  clear hp hO hb S5 B5
  go_wp2_with fail
  refine (eqDumpS_same w6 _ _ n n n n ds S6.out T6.out).mono ?_
  rintro e w7 ⟨rfl, hb⟩
  have B7 := M.hl (M.sl B6.out hb)
  clear hb
  go_wp2
  go_ret
  exact ⟨rfl, B7.out⟩
end Go.Proofs.Ytpokcbcffijheab
