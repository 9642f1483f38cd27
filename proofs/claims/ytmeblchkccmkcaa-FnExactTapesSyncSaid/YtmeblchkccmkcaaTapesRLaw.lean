/-
  TapesRight of the program answers as that of the specification, at every row of tapes.
-/
import Derived.Test.YtmeblchkccmkcaaTapeToS
import Derived.Test.YtmeblchkccmkcaaTapeEq
import Derived.Test.YtmeblchkccmkcaaITapesR
import Derived.Test.YtmeblchkccmkcaaSTapesR
namespace Go.Proofs.Ytmeblchkccmkcaa
open Go.RowKit

theorem M.OwnT.at_slice {w : World} {lo hi : Nat} {a : Option Addr} {n c : Nat} {ps : List (M.TapeD × Value)} {ts : List M.TapeD} (h : M.OwnT w lo hi (.slice a n c) ps) (hp : ps.map Prod.fst = ts) : M.Tps w a n c ts := by
  obtain ⟨a', c', e, hv⟩ := h.tps
  cases e
  rwa [hp] at hv

set_option maxRecDepth 100000 in
set_option maxHeartbeats 1600000 in
theorem fnExactTapesRight_walk (a0 : Option Addr) (n c : Nat) (ts : List M.TapeD) (w : World) (h : M.Tps w a0 n c ts) (hok : ∀ t ∈ ts, M.tok t) :
    Calls Try.prog 5 #[.slice a0 n c] w fun e w' => e = .returned (.bool true) ∧ Below w.heap.size w w' := by
  have HS := M.hl h
  have HO := M.hl hok
  clear h hok
  go_enter Try.func5, Try.ntmps5
  go_wp2_with fail
  refine (szTapeS_any _ a0 n c ts HS.out HO.out).mono ?_
  rintro e w1 ⟨v, rfl, hv1, hv2, hb⟩
  have HV2 := M.hl hv2
  have B1 := M.hl hb
  clear hv2 hb
  by_cases hneg : v < 0
  · go_wp2
    go_ret
    exact ⟨rfl, B1.out⟩
  have HL : Hid (n + M.tln ts ≤ 1048576) := by have := (HV2.out (by omega)).1; show _ ≤ _; omega
  clear HV2
  go_wp2_with fail
  refine (toTapeS_any w1 a0 n c ts (HS.out.below B1.out) HL.out).mono ?_
  rintro e w2 ⟨p1, ps, rfl, hp, hO, hb⟩
  have S2 := M.hl (hO.at_slice hp)
  have B2 := M.hl (M.sl B1.out hb)
  clear hp hO hb B1
  go_wp2_with fail
  refine (sTapesR_any w2 _ n n ts S2.out HO.out).mono ?_
  rintro e w3 ⟨rfl, hb⟩
  have B3 := M.hl (M.sl B2.out hb)
  clear hb S2 B2
  go_wp2_with fail
  refine (toTapeS_any w3 a0 n c ts (HS.out.below B3.out) HL.out).mono ?_
  rintro e w4 ⟨q1, qs, rfl, hp, hO, hb⟩
  have S4 := M.hl (hO.at_slice hp)
  have B4 := M.hl (M.sl B3.out hb)
  clear hp hO hb B3
  go_wp2_with fail
  refine (iTapesR_any w4 _ n n ts S4.out HO.out).mono ?_
  rintro e w5 ⟨rfl, hb⟩
  have S5 := M.hl (S4.out.below hb)
  have B5 := M.hl (M.sl B4.out hb)
  clear hb S4 B4
  generalize M.tapesR ts = u
  have dd : (u != u) = false := by simp
  have dd' : (u == u) = true := by simp
  go_wp2_with fail
  refine (toTapeS_any w5 a0 n c ts (HS.out.below B5.out) HL.out).mono ?_
  rintro e w6 ⟨r1, rs, rfl, hp, hO, hb⟩
  have S6 := M.hl (hO.at_slice hp)
  have S5' := M.hl (S5.out.below hb)
  have B6 := M.hl (M.sl B5.out hb)
  clear hp hO hb S5 B5
  go_wp2_with fail
  refine (eqTapeS_same w6 _ _ n n n n ts S5'.out S6.out).mono ?_
  rintro e w7 ⟨rfl, hb⟩
  have B7 := M.hl (M.sl B6.out hb)
  clear hb
  go_wp2
  go_ret
  exact ⟨rfl, B7.out⟩
end Go.Proofs.Ytmeblchkccmkcaa
