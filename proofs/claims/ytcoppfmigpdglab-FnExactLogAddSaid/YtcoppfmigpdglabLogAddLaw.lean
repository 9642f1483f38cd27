/-
  LogAdd of the program answers as that of the specification, at every text and dump.
-/
import Derived.Test.YtcoppfmigpdglabLogRec
import Derived.Test.YtcoppfmigpdglabIDumpB
import Derived.Test.YtcoppfmigpdglabSDumpB
import Derived.Deep.RegionWith
namespace Go.Proofs.Ytcoppfmigpdglab
open Go.RowKit

/-- The log that LogAdd tells. -/
def M.logAddT (log : ByteArray) (d : M.DumpD) : ByteArray := if 20000 < log.size then ⟨#[]⟩ else if M.dumpR d = true then M.logMore log (⟨#[68]⟩ ++ M.dumpT d) else log

set_option maxRecDepth 100000 in
set_option maxHeartbeats 1600000 in
theorem iLogAdd_any (w : World) (log : ByteArray) (x1 : Int) (hs : ByteArray) (x2 x3 x4 x5 x6 x7 : Int) (a : Option Addr) (n c : Nat) (ps : List M.PartD) (h : M.Pts w a n c ps) (hz : hs.size ≤ maxLen) (hl0 : log.size ≤ 9223372036854775807) :
    Calls Try.prog 15 #[.string log, .agg #[.int .i64 x1, .string hs, .int .i64 x2, .int .i64 x3, .int .i64 x4, .int .i64 x5, .int .i64 x6, .int .i64 x7, .slice a n c]] w fun e w' => e = .returned (.string (M.logAddT log ⟨x1, hs, x2, x3, x4, x5, x6, x7, ps⟩)) ∧ Below w.heap.size w w' := by
  have HF := M.hl h
  have HB : Hid (∀ o, Below w.heap.size w (w.alloc o)) := fun o => (Below.refl _ _).alloc (Nat.le_refl _) _
  have CR : Hid (∀ o, Calls Try.prog 39 #[.agg #[.int .i64 x1, .string hs, .int .i64 x2, .int .i64 x3, .int .i64 x4, .int .i64 x5, .int .i64 x6, .int .i64 x7, .slice a n c]] (w.alloc o) fun e w' => e = .returned (.bool (M.dumpR ⟨x1, hs, x2, x3, x4, x5, x6, x7, ps⟩)) ∧ Below (w.alloc o).heap.size (w.alloc o) w') := fun o => iDumpR_any _ x1 hs x2 x3 x4 x5 x6 x7 a n c ps (h.below (HB.out o)) hz
  have CB : Hid (∀ W, Below w.heap.size w W → Calls Try.prog 42 #[.agg #[.int .i64 x1, .string hs, .int .i64 x2, .int .i64 x3, .int .i64 x4, .int .i64 x5, .int .i64 x6, .int .i64 x7, .slice a n c]] W fun e w' => e = .returned (.string (M.dumpT ⟨x1, hs, x2, x3, x4, x5, x6, x7, ps⟩)) ∧ Below W.heap.size W w') := fun W hW => iDumpB_any _ x1 hs x2 x3 x4 x5 x6 x7 a n c ps (h.below hW) hz
  clear h
  by_cases hl : 20000 < log.size
  · have HE : Hid (M.logAddT log ⟨x1, hs, x2, x3, x4, x5, x6, x7, ps⟩ = ⟨#[]⟩) := by show _ = _; unfold M.logAddT; rw [if_pos hl]
    have d1 : decide (20000 < (log.size : Int)) = true := decide_eq_true (by omega)
    rw [HE.out]
    clear HE
    go_enter Try.func15, Try.ntmps15
    go_wp2
    go_ret
    exact ⟨rfl, HB.out _⟩
  have d1 : decide (20000 < (log.size : Int)) = false := decide_eq_false (by omega)
  cases hr : M.dumpR ⟨x1, hs, x2, x3, x4, x5, x6, x7, ps⟩
  · have HE : Hid (M.logAddT log ⟨x1, hs, x2, x3, x4, x5, x6, x7, ps⟩ = log) := by show _ = _; unfold M.logAddT; rw [if_neg hl, hr]; rfl
    rw [HE.out]
    rw [hr] at CR
    clear hr HE
    go_enter Try.func15, Try.ntmps15
    go_wp2_with fail
    refine (CR.out _).mono ?_
    rintro e w1 ⟨rfl, hb⟩
    have B1 := M.hl ((HB.out _).trans (hb.mono (HB.out _).size))
    clear hb
    go_wp2_with fail
    refine (iCloneT_any log _ (by omega)).mono ?_
    rintro e w2 ⟨rfl, hb⟩
    have B1 := M.hl (M.sl B1.out hb)
    clear hb
    go_wp2
    go_ret
    exact ⟨rfl, B1.out⟩
  · have HE : Hid (M.logAddT log ⟨x1, hs, x2, x3, x4, x5, x6, x7, ps⟩ = M.logMore log (⟨#[68]⟩ ++ M.dumpT ⟨x1, hs, x2, x3, x4, x5, x6, x7, ps⟩)) := by show _ = _; unfold M.logAddT; rw [if_neg hl, hr]; rfl
    have hz2 := M.dumpT_size ⟨x1, hs, x2, x3, x4, x5, x6, x7, ps⟩
    rw [HE.out]
    rw [hr] at CR
    clear hr HE
    generalize M.dumpT ⟨x1, hs, x2, x3, x4, x5, x6, x7, ps⟩ = p at CB hz2
    have CW : Hid (∀ W, Calls Try.prog 41 #[.string log, .int .u8 68, .string p] W fun e w' => e = .returned (.string (M.logMore log (⟨#[68]⟩ ++ p))) ∧ Below W.heap.size W w') := fun W => iWithRec_any log p 68 W (by decide) (by decide) (by omega) (by omega)
    go_enter Try.func15, Try.ntmps15
    go_wp2_with fail
    refine (CR.out _).mono ?_
    rintro e w1 ⟨rfl, hb⟩
    have V1 := M.hl ((hb.block w.heap.size (by simp)).trans (heap_alloc_new _ _))
    have B1 := M.hl ((HB.out _).trans (hb.mono (HB.out _).size))
    clear hb
    obtain ⟨c0, c1, c2, c3, c4, c5, c6, c7, c8⟩ := M.bk9 V1.out
    go_wp2_with fail
    refine (CB.out _ B1.out).mono ?_
    rintro e w2 ⟨rfl, hb⟩
    have B2 := M.hl (M.sl B1.out hb)
    clear hb c0 c1 c2 c3 c4 c5 c6 c7 c8
    go_wp2_with fail
    refine (CW.out _).mono ?_
    rintro e w3 ⟨rfl, hb⟩
    have B3 := M.hl (M.sl B2.out hb)
    clear hb
    go_wp2
    go_ret
    exact ⟨rfl, B3.out⟩

set_option maxRecDepth 100000 in
set_option maxHeartbeats 1600000 in
theorem sLogAdd_any (w : World) (log : ByteArray) (x1 : Int) (hs : ByteArray) (x2 x3 x4 x5 x6 x7 : Int) (a : Option Addr) (n c : Nat) (ps : List M.PartD) (h : M.Pts w a n c ps) (hz : hs.size ≤ maxLen) (hl0 : log.size ≤ 9223372036854775807) :
    Calls Try.prog 13 #[.string log, .agg #[.int .i64 x1, .string hs, .int .i64 x2, .int .i64 x3, .int .i64 x4, .int .i64 x5, .int .i64 x6, .int .i64 x7, .slice a n c]] w fun e w' => e = .returned (.string (M.logAddT log ⟨x1, hs, x2, x3, x4, x5, x6, x7, ps⟩)) ∧ Below w.heap.size w w' := by
  have HF := M.hl h
  have HB : Hid (∀ o, Below w.heap.size w (w.alloc o)) := fun o => (Below.refl _ _).alloc (Nat.le_refl _) _
  have CR : Hid (∀ o, Calls Try.prog 24 #[.agg #[.int .i64 x1, .string hs, .int .i64 x2, .int .i64 x3, .int .i64 x4, .int .i64 x5, .int .i64 x6, .int .i64 x7, .slice a n c]] (w.alloc o) fun e w' => e = .returned (.bool (M.dumpR ⟨x1, hs, x2, x3, x4, x5, x6, x7, ps⟩)) ∧ Below (w.alloc o).heap.size (w.alloc o) w') := fun o => sDumpR_any _ x1 hs x2 x3 x4 x5 x6 x7 a n c ps (h.below (HB.out o)) hz
  have CB : Hid (∀ W, Below w.heap.size w W → Calls Try.prog 37 #[.agg #[.int .i64 x1, .string hs, .int .i64 x2, .int .i64 x3, .int .i64 x4, .int .i64 x5, .int .i64 x6, .int .i64 x7, .slice a n c]] W fun e w' => e = .returned (.string (M.dumpT ⟨x1, hs, x2, x3, x4, x5, x6, x7, ps⟩)) ∧ Below W.heap.size W w') := fun W hW => sDumpB_any _ x1 hs x2 x3 x4 x5 x6 x7 a n c ps (h.below hW) hz
  clear h
  by_cases hl : 20000 < log.size
  · have HE : Hid (M.logAddT log ⟨x1, hs, x2, x3, x4, x5, x6, x7, ps⟩ = ⟨#[]⟩) := by show _ = _; unfold M.logAddT; rw [if_pos hl]
    have d1 : decide (20000 < (log.size : Int)) = true := decide_eq_true (by omega)
    rw [HE.out]
    clear HE
    go_enter Try.func13, Try.ntmps13
    go_wp2
    go_ret
    exact ⟨rfl, HB.out _⟩
  have d1 : decide (20000 < (log.size : Int)) = false := decide_eq_false (by omega)
  cases hr : M.dumpR ⟨x1, hs, x2, x3, x4, x5, x6, x7, ps⟩
  · have HE : Hid (M.logAddT log ⟨x1, hs, x2, x3, x4, x5, x6, x7, ps⟩ = log) := by show _ = _; unfold M.logAddT; rw [if_neg hl, hr]; rfl
    rw [HE.out]
    rw [hr] at CR
    clear hr HE
    go_enter Try.func13, Try.ntmps13
    go_wp2_with fail
    refine (CR.out _).mono ?_
    rintro e w1 ⟨rfl, hb⟩
    have B1 := M.hl ((HB.out _).trans (hb.mono (HB.out _).size))
    clear hb
    go_wp2
    go_ret
    exact ⟨rfl, B1.out⟩
  · have HE : Hid (M.logAddT log ⟨x1, hs, x2, x3, x4, x5, x6, x7, ps⟩ = M.logMore log (⟨#[68]⟩ ++ M.dumpT ⟨x1, hs, x2, x3, x4, x5, x6, x7, ps⟩)) := by show _ = _; unfold M.logAddT; rw [if_neg hl, hr]; rfl
    have hz2 := M.dumpT_size ⟨x1, hs, x2, x3, x4, x5, x6, x7, ps⟩
    rw [HE.out]
    rw [hr] at CR
    clear hr HE
    generalize M.dumpT ⟨x1, hs, x2, x3, x4, x5, x6, x7, ps⟩ = p at CB hz2
    have CW : Hid (∀ W, Calls Try.prog 36 #[.string log, .string (⟨#[68]⟩ ++ p)] W fun e w' => e = .returned (.string (M.logMore log (⟨#[68]⟩ ++ p))) ∧ Below W.heap.size W w') := fun W => sL08Add_any log _ W (by omega) (by rw [ByteArray.size_append]; show 1 + _ ≤ _; omega)
    have had := fun W => run_string_add_sum (P := Try.prog) (w := W) (⟨#[68]⟩ : ByteArray) p (by show 1 + _ ≤ _; omega)
    go_enter Try.func13, Try.ntmps13
    go_wp2_with fail
    refine (CR.out _).mono ?_
    rintro e w1 ⟨rfl, hb⟩
    have V1 := M.hl ((hb.block w.heap.size (by simp)).trans (heap_alloc_new _ _))
    have B1 := M.hl ((HB.out _).trans (hb.mono (HB.out _).size))
    clear hb
    obtain ⟨c0, c1, c2, c3, c4, c5, c6, c7, c8⟩ := M.bk9 V1.out
    go_wp2_with fail
    refine (CB.out _ B1.out).mono ?_
    rintro e w2 ⟨rfl, hb⟩
    have B2 := M.hl (M.sl B1.out hb)
    clear hb c0 c1 c2 c3 c4 c5 c6 c7 c8
    go_wp2_with fail
    refine (CW.out _).mono ?_
    rintro e w3 ⟨rfl, hb⟩
    have B3 := M.hl (M.sl B2.out hb)
    clear hb
    go_wp2
    go_ret
    exact ⟨rfl, B3.out⟩

set_option maxRecDepth 100000 in
set_option maxHeartbeats 3200000 in
theorem fnExactLogAdd_walk (log : ByteArray) (x1 : Int) (hs : ByteArray) (x2 x3 x4 x5 x6 x7 : Int) (a : Option Addr) (n c : Nat) (ps : List M.PartD) (w : World) (hlm : log.size ≤ maxLen) (h : M.Pts w a n c ps) (hok : M.dok ⟨x1, hs, x2, x3, x4, x5, x6, x7, ps⟩) :
    Calls Try.prog 4 #[.string log, .agg #[.int .i64 x1, .string hs, .int .i64 x2, .int .i64 x3, .int .i64 x4, .int .i64 x5, .int .i64 x6, .int .i64 x7, .slice a n c]] w fun e w' => e = .returned (.bool true) ∧ Below w.heap.size w w' := by
  have hz : hs.size ≤ maxLen := hok.2.1
  have HS := M.hl h
  have BO : Hid (∀ o, Below w.heap.size w (w.alloc o)) := fun o => (Below.refl _ _).alloc (Nat.le_refl _) _
  have CZ : Hid (∀ W, Calls Try.prog 12 #[.agg #[.int .i64 x1, .string hs, .int .i64 x2, .int .i64 x3, .int .i64 x4, .int .i64 x5, .int .i64 x6, .int .i64 x7, .slice a n c], .int .i64 1048576] W fun e w' => ∃ v : Int, e = .returned (.int .i64 v) ∧ v ≤ 1048576 ∧ (0 ≤ v → v + n + hs.size ≤ 1048576) ∧ Below W.heap.size W w') := fun W => szDump_any W x1 hs x2 x3 x4 x5 x6 x7 a n c 1048576 h.max hz (by omega) (by omega)
  have HZ := M.hl hz
  clear h hok hz
  unfold maxLen at hlm
  by_cases hbig : 1048576 < log.size
  · have d1 : decide (1048576 < (log.size : Int)) = true := decide_eq_true (by omega)
    go_enter Try.func4, Try.ntmps4
    go_wp2
    go_ret
    exact ⟨rfl, BO.out _⟩
  have d1 : decide (1048576 < (log.size : Int)) = false := decide_eq_false (by omega)
  have HLM : Hid (log.size ≤ 9223372036854775807) := by show _ ≤ _; omega
  go_enter Try.func4, Try.ntmps4
  go_wp2_with fail
  refine (CZ.out _).mono ?_
  rintro e w1 ⟨v, rfl, hv1, hv2, hb⟩
  have HV2 := M.hl hv2
  have V1 := M.hl ((hb.block w.heap.size (by simp)).trans (heap_alloc_new _ _))
  have B1 := M.hl ((BO.out _).trans (hb.mono (BO.out _).size))
  clear hv2 hb
  by_cases hneg : v < 0
  · go_wp2
    go_ret
    exact ⟨rfl, B1.out⟩
  have HL : Hid (n ≤ 1048576) := by have := HV2.out (by omega); show _ ≤ _; omega
  clear HV2 CZ
  obtain ⟨q0, q1, q2, q3, q4, q5, q6, q7, q8⟩ := M.bk9 V1.out
  go_wp2_with fail
  refine (toDump_any w1 x1 hs x2 x3 x4 x5 x6 x7 a n c ps (HS.out.below B1.out) HL.out).mono ?_
  rintro e w2 ⟨b1, rfl, hO, -, -, hb⟩
  have P2 := M.hl hO.at_slice
  have V2 := M.hl (M.keep V1.out hb)
  have B2 := M.hl (M.sl B1.out hb)
  clear hO hb q0 q1 q2 q3 q4 q5 q6 q7 q8
  go_wp2_with fail
  refine (sLogAdd_any w2 log x1 hs x2 x3 x4 x5 x6 x7 _ n n ps P2.out HZ.out HLM.out).mono ?_
  rintro e w3 ⟨rfl, hb⟩
  have V3 := M.hl (M.keep V2.out hb)
  have B3 := M.hl (M.sl B2.out hb)
  clear hb
  obtain ⟨q0, q1, q2, q3, q4, q5, q6, q7, q8⟩ := M.bk9 V3.out
  go_wp2_with fail
  refine (toDump_any w3 x1 hs x2 x3 x4 x5 x6 x7 a n c ps (HS.out.below B3.out) HL.out).mono ?_
  rintro e w4 ⟨b2, rfl, hO, -, hlt, hb⟩
  have P4 := M.hl hO.at_slice
  have V4 := M.hl (M.keep V3.out hb)
  have B4 := M.hl (M.sl B3.out hb)
  have A4 : Hid (∀ o, Below w4.heap.size w4 (w4.alloc o)) := fun o => (Below.refl _ _).alloc (Nat.le_refl _) _
  have Z4 : Hid (∀ W, M.Pts W (some ⟨b2, 0, none⟩) n n ps → Calls Try.prog 15 #[.string log, .agg #[.int .i64 x1, .string hs, .int .i64 x2, .int .i64 x3, .int .i64 x4, .int .i64 x5, .int .i64 x6, .int .i64 x7, .slice (some ⟨b2, 0, none⟩) n n]] W fun e w' => e = .returned (.string (M.logAddT log ⟨x1, hs, x2, x3, x4, x5, x6, x7, ps⟩)) ∧ Below W.heap.size W w') := fun W hW => iLogAdd_any W log x1 hs x2 x3 x4 x5 x6 x7 _ n n ps hW HZ.out HLM.out
  clear hO hb q0 q1 q2 q3 q4 q5 q6 q7 q8
  generalize M.logAddT log ⟨x1, hs, x2, x3, x4, x5, x6, x7, ps⟩ = u at Z4
  go_wp2_with fail
  refine (Z4.out _ (P4.out.below (A4.out _))).mono ?_
  rintro e w5 ⟨rfl, hb⟩
  have X5 := M.hl ((hb.block w4.heap.size (by simp)).trans (heap_alloc_new _ _))
  have V5 := M.hl (M.keep V4.out ((A4.out _).trans (hb.mono (A4.out _).size)))
  have P5 := M.hl (P4.out.below ((A4.out _).trans (hb.mono (A4.out _).size)))
  have B5 := M.hl (M.sl B4.out ((A4.out _).trans (hb.mono (A4.out _).size)))
  clear hb
  have D5 : Hid (Below w5.heap.size w5 w5.drew) := (Below.refl _ _).drew
  have CT : Hid (Calls Try.prog 14 #[.agg #[.int .i64 x1, .string hs, .int .i64 x2, .int .i64 x3, .int .i64 x4, .int .i64 x5, .int .i64 x6, .int .i64 x7, .slice a n c]] w5.drew fun e w' => ∃ r1 : Nat, e = .returned (.agg #[.int .i64 x1, .string hs, .int .i64 x2, .int .i64 x3, .int .i64 x4, .int .i64 x5, .int .i64 x6, .int .i64 x7, .slice (some ⟨r1, 0, none⟩) n n]) ∧ M.Pts w' (some ⟨r1, 0, none⟩) n n ps ∧ Below w5.drew.heap.size w5.drew w') :=
    (toDump_any w5.drew x1 hs x2 x3 x4 x5 x6 x7 a n c ps ((HS.out.below B5.out).below D5.out) HL.out).mono (by rintro e w' ⟨r1, rfl, hO, -, -, hb⟩; exact ⟨r1, rfl, hO.at_slice, hb⟩)
  have X5d := M.hl (M.keep X5.out D5.out)
  have P5d := M.hl (P5.out.below D5.out)
  have B5d := M.hl (M.sl B5.out D5.out)
  obtain ⟨q0, q1, q2, q3, q4, q5, q6, q7, q8⟩ := M.bk9 V5.out
  obtain ⟨p0, p1, p2, p3, p4, p5, p6, p7, p8⟩ := M.bk9 X5.out
  go_wp2_with fail
  go_region_with (first | (go_at_call 14; refine CT.out.mono ?_; rintro e w8 ⟨r1, rfl, hs8, hb8⟩; have S8 := M.hl hs8; have B8 := M.hl hb8; obtain ⟨z0, z1, z2, z3, z4, z5, z6, z7, z8⟩ := M.bk9 (M.keep X5d.out hb8); clear hs8 hb8) | (go_at_call 16; refine (eqDump_same _ x1 hs x2 x3 x4 x5 x6 x7 _ _ n n n n ps (P5d.out.below B8.out) S8.out).mono ?_; rintro e w9 ⟨rfl, hb9⟩))
  all_goals
    go_wp2
    go_ret
    exact ⟨rfl, M.sl (M.sl B5d.out B8.out) hb9⟩
end Go.Proofs.Ytcoppfmigpdglab
