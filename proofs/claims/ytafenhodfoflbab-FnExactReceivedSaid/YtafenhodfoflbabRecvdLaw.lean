/-
  Received of the program answers as that of the specification, at every receiver.
-/
import Derived.Test.YtafenhodfoflbabLinkSW
import Derived.Test.YtafenhodfoflbabIRecvd
import Derived.Test.YtafenhodfoflbabSRecvd
import Derived.Deep.RegionWith
namespace Go.Proofs.Ytafenhodfoflbab
open Go.RowKit

set_option maxRecDepth 100000 in
set_option maxHeartbeats 1600000 in
theorem fnExactReceived_walk (a0 : Option Addr) (n c : Nat) (ss : List ByteArray) (x : Int) (w : World) (h : M.Strs w a0 n c ss) (hok : ∀ s ∈ ss, s.size ≤ maxLen) (_ : -9223372036854775808 ≤ x) (_ : x ≤ 9223372036854775807) :
    Calls Try.prog 8 #[.agg #[.slice a0 n c, .int .i64 x]] w fun e w' => e = .returned (.bool true) ∧ Below w.heap.size w w' := by
  have HS := M.hl h
  have HO := M.hl hok
  have BO : Hid (∀ o, Below w.heap.size w (w.alloc o)) := fun o => (Below.refl _ _).alloc (Nat.le_refl _) _
  clear h hok
  go_enter Try.func8, Try.ntmps8
  go_wp2_with fail
  refine (szRecv_any _ a0 n c ss x (HS.out.below (BO.out _)) HO.out).mono ?_
  rintro e w1 ⟨v, rfl, hv1, hv2, hb⟩
  have HV2 := M.hl hv2
  have B1 := M.hl hb
  have B1w := M.hl (M.bxd_below hb)
  have x0 : w1.cell? ⟨w.heap.size, 0, none⟩ = some (.slice a0 n c) := M.bxd hb 0 _ rfl
  have x1 : w1.cell? ⟨w.heap.size, 1, none⟩ = some (.int .i64 x) := M.bxd hb 1 _ rfl
  clear hv2 hb
  by_cases hneg : v < 0
  · go_wp2
    go_ret
    exact ⟨rfl, B1w.out⟩
  obtain ⟨hl1, -⟩ := HV2.out (by omega)
  clear HV2
  go_wp2_with fail
  refine (toRecv_any w1 a0 n c ss x (HS.out.below B1w.out) (by omega)).mono ?_
  rintro e w2 ⟨p1, rfl, hs2, -, -, hb⟩
  have S2 := M.hl hs2
  have B2 := M.hl (M.sl B1.out hb)
  clear hs2 hb x0 x1 B1 B1w
  go_wp2_with fail
  refine (sRecvd_any w2 _ n n ss x S2.out HO.out).mono ?_
  rintro e w3 ⟨rfl, hb⟩
  have B3 := M.hl (M.sl B2.out hb)
  have B3w := M.hl (M.bxd_below B3.out)
  have x0 : w3.cell? ⟨w.heap.size, 0, none⟩ = some (.slice a0 n c) := M.bxd B3.out 0 _ rfl
  have x1 : w3.cell? ⟨w.heap.size, 1, none⟩ = some (.int .i64 x) := M.bxd B3.out 1 _ rfl
  clear hb S2 B2
  go_wp2_with fail
  refine (toRecv_any w3 a0 n c ss x (HS.out.below B3w.out) (by omega)).mono ?_
  rintro e w4 ⟨q1, rfl, hs4, -, -, hb⟩
  have BA : Below w4.heap.size w4 (w4.alloc (.cells #[.slice (some ⟨q1, 0, none⟩) n n, .int .i64 x] 32)) := (Below.refl _ _).alloc (Nat.le_refl _) _
  have S4 := M.hl (hs4.below BA)
  have B4 := M.hl (M.sl (M.sl B3.out hb) BA)
  clear hs4 hb x0 x1 B3 B3w BA
  go_wp2_with fail
  refine (iRecvd_any _ _ n n ss x S4.out HO.out).mono ?_
  rintro e w6 ⟨rfl, hb⟩
  have S6 := M.hl (S4.out.below hb)
  have B6 := M.hl (M.sl B4.out hb)
  have B6w := M.hl (M.bxd_below B6.out)
  have x0 : w6.cell? ⟨w.heap.size, 0, none⟩ = some (.slice a0 n c) := M.bxd B6.out 0 _ rfl
  have x1 : w6.cell? ⟨w.heap.size, 1, none⟩ = some (.int .i64 x) := M.bxd B6.out 1 _ rfl
  have y0 : w6.cell? ⟨w4.heap.size, 0, none⟩ = some (.slice (some ⟨q1, 0, none⟩) n n) := M.bxd hb 0 _ rfl
  have y1 : w6.cell? ⟨w4.heap.size, 1, none⟩ = some (.int .i64 x) := M.bxd hb 1 _ rfl
  have hlt4 : w4.heap.size < w6.heap.size := by have := hb.size; simp at this; omega
  clear hb S4 B4
  generalize M.rcvd ss x = u
  have dd : (u.toList == u.toList) = true := by simp
  have B6d : Hid (Below w.heap.size w w6.drew) := M.sl B6w.out (Below.refl _ _).drew
  have CT : Hid (Calls Try.prog 25 #[.agg #[.slice a0 n c, .int .i64 x]] w6.drew fun e w' => ∃ r1 : Nat, e = .returned (.agg #[.slice (some ⟨r1, 0, none⟩) n n, .int .i64 x]) ∧ M.Strs w' (some ⟨r1, 0, none⟩) n n ss ∧ Below w6.drew.heap.size w6.drew w') :=
    (toRecv_any w6.drew a0 n c ss x (HS.out.below B6d.out) (by omega)).mono (by rintro e w' ⟨r1, rfl, hs, -, -, hb⟩; exact ⟨r1, rfl, hs, hb⟩)
  go_wp2_with fail
  go_region_with (first | (go_at_call 25; refine CT.out.mono ?_; rintro e w8 ⟨r1, rfl, hs8, hb8⟩; have S8 := M.hl hs8; have B8 := M.hl hb8; have z0 : w8.cell? ⟨w4.heap.size, 0, none⟩ = some (.slice (some ⟨q1, 0, none⟩) n n) := (hb8.cell (p := ⟨w4.heap.size, 0, none⟩) hlt4).trans y0; have z1 : w8.cell? ⟨w4.heap.size, 1, none⟩ = some (.int .i64 x) := (hb8.cell (p := ⟨w4.heap.size, 1, none⟩) hlt4).trans y1; clear hs8 hb8) | (go_at_call 27; refine (eqRecv_same w8 _ _ n n n n ss x (S6.out.below (M.sl (Below.refl _ _).drew B8.out)) S8.out).mono ?_; rintro e w9 ⟨rfl, hb9⟩))
  all_goals
    go_wp2
    go_ret
    exact ⟨rfl, M.sl (M.sl B6d.out B8.out) hb9⟩
end Go.Proofs.Ytafenhodfoflbab
