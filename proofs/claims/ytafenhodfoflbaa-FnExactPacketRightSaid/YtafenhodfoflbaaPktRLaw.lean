/-
  PacketRight of the program answers as that of the specification, at every packet.
-/
import Derived.Test.YtafenhodfoflbaaPktSW
import Derived.Test.YtafenhodfoflbaaIPktR
import Derived.Test.YtafenhodfoflbaaSPktR
namespace Go.Proofs.Ytafenhodfoflbaa
open Go.RowKit

set_option maxRecDepth 100000 in
set_option maxHeartbeats 1600000 in
theorem fnExactPacketRight_walk (q : Int) (l : Bool) (s : ByteArray) (c : Int) (w : World) (hq : -9223372036854775808 ≤ q ∧ q ≤ 9223372036854775807) (hs : s.size ≤ maxLen) (_ : -9223372036854775808 ≤ c ∧ c ≤ 9223372036854775807) :
    Calls Try.prog 6 #[.agg #[.int .i64 q, .bool l, .string s, .int .i64 c]] w fun e w' => e = .returned (.bool true) ∧ Below w.heap.size w w' := by
  have HQ := M.hl hq
  have HS := M.hl hs
  clear hq hs
  go_enter Try.func6, Try.ntmps6
  go_wp2_with fail
  refine (szPkt_any q l s c _ HS.out).mono ?_
  rintro e w1 ⟨v, rfl, hv1, hv2, hb⟩
  have HV2 := M.hl hv2
  have B1 := M.hl hb
  have x0 : w1.cell? ⟨w.heap.size, 0, none⟩ = some (.int .i64 q) := M.bxd hb 0 _ rfl
  have x1 : w1.cell? ⟨w.heap.size, 1, none⟩ = some (.bool l) := M.bxd hb 1 _ rfl
  have x2 : w1.cell? ⟨w.heap.size, 2, none⟩ = some (.string s) := M.bxd hb 2 _ rfl
  have x3 : w1.cell? ⟨w.heap.size, 3, none⟩ = some (.int .i64 c) := M.bxd hb 3 _ rfl
  clear hv2 hb
  by_cases hneg : v < 0
  · go_wp2
    go_ret
    exact ⟨rfl, M.bxd_below B1.out⟩
  have hl1 := HV2.out (by omega)
  clear HV2
  go_wp2_with fail
  refine (toPkt_any q l s c w1).mono ?_
  rintro e w2 ⟨rfl, hb⟩
  have B2 := M.hl (M.sl B1.out hb)
  clear hb x0 x1 x2 x3 B1
  go_wp2_with fail
  refine (sPktR_any q l s c w2 HQ.out.1 HQ.out.2 (by omega)).mono ?_
  rintro e w3 ⟨rfl, hb⟩
  have B3 := M.hl (M.sl B2.out hb)
  have x0 : w3.cell? ⟨w.heap.size, 0, none⟩ = some (.int .i64 q) := M.bxd B3.out 0 _ rfl
  have x1 : w3.cell? ⟨w.heap.size, 1, none⟩ = some (.bool l) := M.bxd B3.out 1 _ rfl
  have x2 : w3.cell? ⟨w.heap.size, 2, none⟩ = some (.string s) := M.bxd B3.out 2 _ rfl
  have x3 : w3.cell? ⟨w.heap.size, 3, none⟩ = some (.int .i64 c) := M.bxd B3.out 3 _ rfl
  clear hb B2
  go_wp2_with fail
  refine (toPkt_any q l s c w3).mono ?_
  rintro e w4 ⟨rfl, hb⟩
  have B4 := M.hl (M.sl B3.out hb)
  clear hb x0 x1 x2 x3 B3
  go_wp2_with fail
  refine (iPktR_any q l s c w4 HQ.out.1 HQ.out.2 (by omega)).mono ?_
  rintro e w5 ⟨rfl, hb⟩
  have B5 := M.hl (M.bxd_below (M.sl B4.out hb))
  clear hb B4
  generalize M.pktR q l s c = u
  have dd : (u != u) = false := by simp
  have dd' : (u == u) = true := by simp
  go_wp2
  go_ret
  exact ⟨rfl, B5.out⟩
end Go.Proofs.Ytafenhodfoflbaa
