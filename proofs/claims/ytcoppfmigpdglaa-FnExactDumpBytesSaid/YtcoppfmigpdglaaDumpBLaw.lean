/-
  DumpBytes of the program answers as that of the specification, at every dump.
-/
import Derived.Test.YtcoppfmigpdglaaDumpSW
import Derived.Test.YtcoppfmigpdglaaIDumpB
import Derived.Test.YtcoppfmigpdglaaSDumpB
import Derived.Deep.RegionWith
namespace Go.Proofs.Ytcoppfmigpdglaa
open Go.RowKit

set_option maxRecDepth 100000 in
set_option maxHeartbeats 3200000 in
theorem fnExactDumpBytes_walk (x1 : Int) (hs : ByteArray) (x2 x3 x4 x5 x6 x7 : Int) (a : Option Addr) (n c : Nat) (ps : List M.PartD) (w : World) (h : M.Pts w a n c ps) (hok : M.dok ⟨x1, hs, x2, x3, x4, x5, x6, x7, ps⟩) :
    Calls Try.prog 5 #[.agg #[.int .i64 x1, .string hs, .int .i64 x2, .int .i64 x3, .int .i64 x4, .int .i64 x5, .int .i64 x6, .int .i64 x7, .slice a n c]] w fun e w' => e = .returned (.bool true) ∧ Below w.heap.size w w' := by
  have hz : hs.size ≤ maxLen := hok.2.1
  have HS := M.hl h
  have BO : Hid (∀ o, Below w.heap.size w (w.alloc o)) := fun o => (Below.refl _ _).alloc (Nat.le_refl _) _
  have CZ : Hid (∀ W, Calls Try.prog 16 #[.agg #[.int .i64 x1, .string hs, .int .i64 x2, .int .i64 x3, .int .i64 x4, .int .i64 x5, .int .i64 x6, .int .i64 x7, .slice a n c], .int .i64 1048576] W fun e w' => ∃ v : Int, e = .returned (.int .i64 v) ∧ v ≤ 1048576 ∧ (0 ≤ v → v + n + hs.size ≤ 1048576) ∧ Below W.heap.size W w') := fun W => szDump_any W x1 hs x2 x3 x4 x5 x6 x7 a n c 1048576 h.max hz (by omega) (by omega)
  have HZ := M.hl hz
  clear h hok hz
  go_enter Try.func5, Try.ntmps5
  go_wp2_with fail
  refine (CZ.out _).mono ?_
  rintro e w1 ⟨v, rfl, hv1, hv2, hb⟩
  have HV2 := M.hl hv2
  have V1 := M.hl ((hb.block w.heap.size (by simp)).trans (heap_alloc_new _ _))
  have B1 := M.hl ((BO.out _).trans (hb.mono (BO.out _).size))
  clear hv2 hb
  by_cases hneg : v < 0
  · go_wp2
    go_ret
    exact ⟨rfl, B1.out⟩
  have HL : Hid (n ≤ 1048576) := by have := HV2.out (by omega); show _ ≤ _; omega
  clear HV2 CZ
  obtain ⟨q0, q1, q2, q3, q4, q5, q6, q7, q8⟩ := M.bk9 V1.out
  go_wp2_with fail
  refine (toDump_any w1 x1 hs x2 x3 x4 x5 x6 x7 a n c ps (HS.out.below B1.out) HL.out).mono ?_
  rintro e w2 ⟨b1, rfl, hO, -, -, hb⟩
  have P2 := M.hl hO.at_slice
  have V2 := M.hl (M.keep V1.out hb)
  have B2 := M.hl (M.sl B1.out hb)
  clear hO hb q0 q1 q2 q3 q4 q5 q6 q7 q8
  go_wp2_with fail
  refine (sDumpB_any w2 x1 hs x2 x3 x4 x5 x6 x7 _ n n ps P2.out HZ.out).mono ?_
  rintro e w3 ⟨rfl, hb⟩
  have V3 := M.hl (M.keep V2.out hb)
  have B3 := M.hl (M.sl B2.out hb)
  clear hb
  obtain ⟨q0, q1, q2, q3, q4, q5, q6, q7, q8⟩ := M.bk9 V3.out
  go_wp2_with fail
  refine (toDump_any w3 x1 hs x2 x3 x4 x5 x6 x7 a n c ps (HS.out.below B3.out) HL.out).mono ?_
  rintro e w4 ⟨b2, rfl, hO, -, hlt, hb⟩
  have P4 := M.hl hO.at_slice
  have V4 := M.hl (M.keep V3.out hb)
  have B4 := M.hl (M.sl B3.out hb)
  have A4 : Hid (∀ o, Below w4.heap.size w4 (w4.alloc o)) := fun o => (Below.refl _ _).alloc (Nat.le_refl _) _
  have Z4 : Hid (∀ W, M.Pts W (some ⟨b2, 0, none⟩) n n ps → Calls Try.prog 9 #[.agg #[.int .i64 x1, .string hs, .int .i64 x2, .int .i64 x3, .int .i64 x4, .int .i64 x5, .int .i64 x6, .int .i64 x7, .slice (some ⟨b2, 0, none⟩) n n]] W fun e w' => e = .returned (.string (M.dumpT ⟨x1, hs, x2, x3, x4, x5, x6, x7, ps⟩)) ∧ Below W.heap.size W w') := fun W hW => iDumpB_any W x1 hs x2 x3 x4 x5 x6 x7 _ n n ps hW HZ.out
  clear hO hb q0 q1 q2 q3 q4 q5 q6 q7 q8
  generalize M.dumpT ⟨x1, hs, x2, x3, x4, x5, x6, x7, ps⟩ = u at Z4
  go_wp2_with fail
  refine (Z4.out _ (P4.out.below (A4.out _))).mono ?_
  rintro e w5 ⟨rfl, hb⟩
  have X5 := M.hl ((hb.block w4.heap.size (by simp)).trans (heap_alloc_new _ _))
  have V5 := M.hl (M.keep V4.out ((A4.out _).trans (hb.mono (A4.out _).size)))
  have P5 := M.hl (P4.out.below ((A4.out _).trans (hb.mono (A4.out _).size)))
  have B5 := M.hl (M.sl B4.out ((A4.out _).trans (hb.mono (A4.out _).size)))
  clear hb
  have D5 : Hid (Below w5.heap.size w5 w5.drew) := (Below.refl _ _).drew
  have CT : Hid (Calls Try.prog 18 #[.agg #[.int .i64 x1, .string hs, .int .i64 x2, .int .i64 x3, .int .i64 x4, .int .i64 x5, .int .i64 x6, .int .i64 x7, .slice a n c]] w5.drew fun e w' => ∃ r1 : Nat, e = .returned (.agg #[.int .i64 x1, .string hs, .int .i64 x2, .int .i64 x3, .int .i64 x4, .int .i64 x5, .int .i64 x6, .int .i64 x7, .slice (some ⟨r1, 0, none⟩) n n]) ∧ M.Pts w' (some ⟨r1, 0, none⟩) n n ps ∧ Below w5.drew.heap.size w5.drew w') :=
    (toDump_any w5.drew x1 hs x2 x3 x4 x5 x6 x7 a n c ps ((HS.out.below B5.out).below D5.out) HL.out).mono (by rintro e w' ⟨r1, rfl, hO, -, -, hb⟩; exact ⟨r1, rfl, hO.at_slice, hb⟩)
  have X5d := M.hl (M.keep X5.out D5.out)
  have P5d := M.hl (P5.out.below D5.out)
  have B5d := M.hl (M.sl B5.out D5.out)
  obtain ⟨q0, q1, q2, q3, q4, q5, q6, q7, q8⟩ := M.bk9 V5.out
  obtain ⟨p0, p1, p2, p3, p4, p5, p6, p7, p8⟩ := M.bk9 X5.out
  go_wp2_with fail
  go_region_with (first | (go_at_call 18; refine CT.out.mono ?_; rintro e w8 ⟨r1, rfl, hs8, hb8⟩; have S8 := M.hl hs8; have B8 := M.hl hb8; obtain ⟨z0, z1, z2, z3, z4, z5, z6, z7, z8⟩ := M.bk9 (M.keep X5d.out hb8); clear hs8 hb8) | (go_at_call 19; refine (eqDump_same _ x1 hs x2 x3 x4 x5 x6 x7 _ _ n n n n ps (P5d.out.below B8.out) S8.out).mono ?_; rintro e w9 ⟨rfl, hb9⟩))
  all_goals
    go_wp2
    go_ret
    exact ⟨rfl, M.sl (M.sl B5d.out B8.out) hb9⟩
end Go.Proofs.Ytcoppfmigpdglaa
