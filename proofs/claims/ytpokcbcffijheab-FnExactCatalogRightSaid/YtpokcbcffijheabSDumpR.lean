/-
  What DumpRight of the specification does, with what it looks at each part by.
-/
import Derived.Test.YtpokcbcffijheabDumpMath
import Derived.Test.YtpokcbcffijheabNameRW
import Derived.Test.YtpokcbcffijheabSIs
import Derived.Test.YtpokcbcffijheabSTime
import Derived.Test.YtpokcbcffijheabLinkBox
namespace Go.Proofs.Ytpokcbcffijheab
open Go.RowKit

set_option maxRecDepth 100000 in
set_option maxHeartbeats 1600000 in
theorem sL08Part_any (q l s c : Int) (w : World) :
    Calls Try.prog 55 #[.agg #[.int .i64 q, .int .i64 l, .int .i64 s, .int .i64 c]] w fun e w' => e = .returned (.bool (M.partR ⟨q, l, s, c⟩)) ∧ Below w.heap.size w w' := by
  have HB : Hid (∀ o, Below w.heap.size w (w.alloc o)) := fun o => (Below.refl _ _).alloc (Nat.le_refl _) _
  have CU : Hid (∀ (v hi : Int) (u : Bool), decide (0 ≤ v ∧ v ≤ hi) = u → ∀ W, Calls Try.prog 44 #[.int .i64 v, .int .i64 0, .int .i64 hi] W fun e w' => e = .returned (.bool u) ∧ W = w') := fun v hi u hu W => by rw [← hu]; exact sIs_any v 0 hi W
  unfold M.partR
  simp only
  cases e1 : decide (0 ≤ q ∧ q ≤ 7)
  · have C1 := M.hl (CU.out q 7 _ e1)
    clear e1
    go_enter Try.func55, Try.ntmps55
    go_wp2_with fail
    refine (C1.out _).mono ?_
    rintro e w2 ⟨rfl, rfl⟩
    go_wp2
    go_ret
    exact ⟨rfl, HB.out _⟩
  have C1 := M.hl (CU.out q 7 _ e1)
  cases e2 : decide (0 ≤ l ∧ l ≤ 1000000)
  · have C2 := M.hl (CU.out l 1000000 _ e2)
    clear e1 e2
    go_enter Try.func55, Try.ntmps55
    go_wp2_with fail
    refine (C1.out _).mono ?_
    rintro e w2 ⟨rfl, rfl⟩
    go_wp2_with fail
    refine (C2.out _).mono ?_
    rintro e w2 ⟨rfl, rfl⟩
    go_wp2
    go_ret
    exact ⟨rfl, HB.out _⟩
  have C2 := M.hl (CU.out l 1000000 _ e2)
  cases e3 : decide (0 ≤ s ∧ s ≤ 300)
  · have C3 := M.hl (CU.out s 300 _ e3)
    clear e1 e2 e3
    go_enter Try.func55, Try.ntmps55
    go_wp2_with fail
    refine (C1.out _).mono ?_
    rintro e w2 ⟨rfl, rfl⟩
    go_wp2_with fail
    refine (C2.out _).mono ?_
    rintro e w2 ⟨rfl, rfl⟩
    go_wp2_with fail
    refine (C3.out _).mono ?_
    rintro e w2 ⟨rfl, rfl⟩
    go_wp2
    go_ret
    exact ⟨rfl, HB.out _⟩
  have C3 := M.hl (CU.out s 300 _ e3)
  have C4 := M.hl (CU.out c 300 _ rfl)
  generalize decide (0 ≤ c ∧ c ≤ 300) = u at C4
  clear e1 e2 e3
  go_enter Try.func55, Try.ntmps55
  go_wp2_with fail
  refine (C1.out _).mono ?_
  rintro e w2 ⟨rfl, rfl⟩
  go_wp2_with fail
  refine (C2.out _).mono ?_
  rintro e w2 ⟨rfl, rfl⟩
  go_wp2_with fail
  refine (C3.out _).mono ?_
  rintro e w2 ⟨rfl, rfl⟩
  go_wp2_with fail
  refine (C4.out _).mono ?_
  rintro e w2 ⟨rfl, rfl⟩
  go_wp2
  go_ret
  exact ⟨by simp, HB.out _⟩

set_option maxRecDepth 100000 in
set_option maxHeartbeats 3200000 in
theorem sDumpR_any (w : World) (x1 : Int) (hs : ByteArray) (x2 x3 x4 x5 x6 x7 : Int) (a : Option Addr) (n c : Nat) (ps : List M.PartD) (h : M.Pts w a n c ps) (hz : hs.size ≤ maxLen) :
    Calls Try.prog 24 #[.agg #[.int .i64 x1, .string hs, .int .i64 x2, .int .i64 x3, .int .i64 x4, .int .i64 x5, .int .i64 x6, .int .i64 x7, .slice a n c]] w fun e w' => e = .returned (.bool (M.dumpR ⟨x1, hs, x2, x3, x4, x5, x6, x7, ps⟩)) ∧ Below w.heap.size w w' := by
  have hlm := h.max
  have HF := M.hl h
  have HN : Hid (n = ps.length) := h.1
  have HB : Hid (∀ o, Below w.heap.size w (w.alloc o)) := fun o => (Below.refl _ _).alloc (Nat.le_refl _) _
  clear h
  cases e0 : decide (1 ≤ x1 ∧ x1 ≤ 1000000)
  · have HE : Hid (M.dumpR ⟨x1, hs, x2, x3, x4, x5, x6, x7, ps⟩ = false) := by show _ = _; unfold M.dumpR; simp only; rw [e0]; simp
    have C0 : Hid (∀ W, Calls Try.prog 44 #[.int .i64 x1, .int .i64 1, .int .i64 1000000] W fun e w' => e = .returned (.bool false) ∧ W = w') := fun W => by rw [← e0]; exact sIs_any x1 1 1000000 W
    rw [HE.out]
    clear HE e0
    go_enter Try.func24, Try.ntmps24
    go_wp2_with fail
    refine (C0.out _).mono ?_
    rintro e w2 ⟨rfl, rfl⟩
    go_wp2
    go_ret
    exact ⟨rfl, HB.out _⟩
  have C0 : Hid (∀ W, Calls Try.prog 44 #[.int .i64 x1, .int .i64 1, .int .i64 1000000] W fun e w' => e = .returned (.bool true) ∧ W = w') := fun W => by rw [← e0]; exact sIs_any x1 1 1000000 W
  cases e1 : M.nameR hs
  · have HE : Hid (M.dumpR ⟨x1, hs, x2, x3, x4, x5, x6, x7, ps⟩ = false) := by show _ = _; unfold M.dumpR; simp only; rw [e0, e1]; simp
    have C1 : Hid (∀ W, Calls Try.prog 53 #[.string hs] W fun e w' => e = .returned (.bool false) ∧ W = w') := fun W => by rw [← e1]; exact sNameRight_any hs W hz
    rw [HE.out]
    clear HE e0 e1
    go_enter Try.func24, Try.ntmps24
    go_wp2_with fail
    refine (C0.out _).mono ?_
    rintro e w2 ⟨rfl, rfl⟩
    go_wp2_with fail
    refine (C1.out _).mono ?_
    rintro e w2 ⟨rfl, rfl⟩
    go_wp2
    go_ret
    exact ⟨rfl, HB.out _⟩
  have C1 : Hid (∀ W, Calls Try.prog 53 #[.string hs] W fun e w' => e = .returned (.bool true) ∧ W = w') := fun W => by rw [← e1]; exact sNameRight_any hs W hz
  cases e2 : decide (0 ≤ x2 ∧ x2 ≤ 1000000)
  · have HE : Hid (M.dumpR ⟨x1, hs, x2, x3, x4, x5, x6, x7, ps⟩ = false) := by show _ = _; unfold M.dumpR; simp only; rw [e0, e1, e2]; simp
    have C2 : Hid (∀ W, Calls Try.prog 44 #[.int .i64 x2, .int .i64 0, .int .i64 1000000] W fun e w' => e = .returned (.bool false) ∧ W = w') := fun W => by rw [← e2]; exact sIs_any x2 0 1000000 W
    rw [HE.out]
    clear HE e0 e1 e2
    go_enter Try.func24, Try.ntmps24
    go_wp2_with fail
    refine (C0.out _).mono ?_
    rintro e w2 ⟨rfl, rfl⟩
    go_wp2_with fail
    refine (C1.out _).mono ?_
    rintro e w2 ⟨rfl, rfl⟩
    go_wp2_with fail
    refine (C2.out _).mono ?_
    rintro e w2 ⟨rfl, rfl⟩
    go_wp2
    go_ret
    exact ⟨rfl, HB.out _⟩
  have C2 : Hid (∀ W, Calls Try.prog 44 #[.int .i64 x2, .int .i64 0, .int .i64 1000000] W fun e w' => e = .returned (.bool true) ∧ W = w') := fun W => by rw [← e2]; exact sIs_any x2 0 1000000 W
  cases e3 : decide (0 ≤ x3 ∧ x3 ≤ 5)
  · have HE : Hid (M.dumpR ⟨x1, hs, x2, x3, x4, x5, x6, x7, ps⟩ = false) := by show _ = _; unfold M.dumpR; simp only; rw [e0, e1, e2, e3]; simp
    have C3 : Hid (∀ W, Calls Try.prog 44 #[.int .i64 x3, .int .i64 0, .int .i64 5] W fun e w' => e = .returned (.bool false) ∧ W = w') := fun W => by rw [← e3]; exact sIs_any x3 0 5 W
    rw [HE.out]
    clear HE e0 e1 e2 e3
    go_enter Try.func24, Try.ntmps24
    go_wp2_with fail
    refine (C0.out _).mono ?_
    rintro e w2 ⟨rfl, rfl⟩
    go_wp2_with fail
    refine (C1.out _).mono ?_
    rintro e w2 ⟨rfl, rfl⟩
    go_wp2_with fail
    refine (C2.out _).mono ?_
    rintro e w2 ⟨rfl, rfl⟩
    go_wp2_with fail
    refine (C3.out _).mono ?_
    rintro e w2 ⟨rfl, rfl⟩
    go_wp2
    go_ret
    exact ⟨rfl, HB.out _⟩
  have C3 : Hid (∀ W, Calls Try.prog 44 #[.int .i64 x3, .int .i64 0, .int .i64 5] W fun e w' => e = .returned (.bool true) ∧ W = w') := fun W => by rw [← e3]; exact sIs_any x3 0 5 W
  cases e4 : decide (0 ≤ x4 ∧ x4 ≤ 1000000)
  · have HE : Hid (M.dumpR ⟨x1, hs, x2, x3, x4, x5, x6, x7, ps⟩ = false) := by show _ = _; unfold M.dumpR; simp only; rw [e0, e1, e2, e3, e4]; simp
    have C4 : Hid (∀ W, Calls Try.prog 44 #[.int .i64 x4, .int .i64 0, .int .i64 1000000] W fun e w' => e = .returned (.bool false) ∧ W = w') := fun W => by rw [← e4]; exact sIs_any x4 0 1000000 W
    rw [HE.out]
    clear HE e0 e1 e2 e3 e4
    go_enter Try.func24, Try.ntmps24
    go_wp2_with fail
    refine (C0.out _).mono ?_
    rintro e w2 ⟨rfl, rfl⟩
    go_wp2_with fail
    refine (C1.out _).mono ?_
    rintro e w2 ⟨rfl, rfl⟩
    go_wp2_with fail
    refine (C2.out _).mono ?_
    rintro e w2 ⟨rfl, rfl⟩
    go_wp2_with fail
    refine (C3.out _).mono ?_
    rintro e w2 ⟨rfl, rfl⟩
    go_wp2_with fail
    refine (C4.out _).mono ?_
    rintro e w2 ⟨rfl, rfl⟩
    go_wp2
    go_ret
    exact ⟨rfl, HB.out _⟩
  have C4 : Hid (∀ W, Calls Try.prog 44 #[.int .i64 x4, .int .i64 0, .int .i64 1000000] W fun e w' => e = .returned (.bool true) ∧ W = w') := fun W => by rw [← e4]; exact sIs_any x4 0 1000000 W
  cases e5 : decide (0 ≤ x5 ∧ x5 ≤ 1000000000)
  · have HE : Hid (M.dumpR ⟨x1, hs, x2, x3, x4, x5, x6, x7, ps⟩ = false) := by show _ = _; unfold M.dumpR; simp only; rw [e0, e1, e2, e3, e4, e5]; simp
    have C5 : Hid (∀ W, Calls Try.prog 54 #[.int .i64 x5] W fun e w' => e = .returned (.bool false) ∧ W = w') := fun W => by rw [← e5]; exact sTime_any x5 W
    rw [HE.out]
    clear HE e0 e1 e2 e3 e4 e5
    go_enter Try.func24, Try.ntmps24
    go_wp2_with fail
    refine (C0.out _).mono ?_
    rintro e w2 ⟨rfl, rfl⟩
    go_wp2_with fail
    refine (C1.out _).mono ?_
    rintro e w2 ⟨rfl, rfl⟩
    go_wp2_with fail
    refine (C2.out _).mono ?_
    rintro e w2 ⟨rfl, rfl⟩
    go_wp2_with fail
    refine (C3.out _).mono ?_
    rintro e w2 ⟨rfl, rfl⟩
    go_wp2_with fail
    refine (C4.out _).mono ?_
    rintro e w2 ⟨rfl, rfl⟩
    go_wp2_with fail
    refine (C5.out _).mono ?_
    rintro e w2 ⟨rfl, rfl⟩
    go_wp2
    go_ret
    exact ⟨rfl, HB.out _⟩
  have C5 : Hid (∀ W, Calls Try.prog 54 #[.int .i64 x5] W fun e w' => e = .returned (.bool true) ∧ W = w') := fun W => by rw [← e5]; exact sTime_any x5 W
  cases e6 : decide (0 ≤ x6 ∧ x6 ≤ 20000)
  · have HE : Hid (M.dumpR ⟨x1, hs, x2, x3, x4, x5, x6, x7, ps⟩ = false) := by show _ = _; unfold M.dumpR; simp only; rw [e0, e1, e2, e3, e4, e5, e6]; simp
    have C6 : Hid (∀ W, Calls Try.prog 44 #[.int .i64 x6, .int .i64 0, .int .i64 20000] W fun e w' => e = .returned (.bool false) ∧ W = w') := fun W => by rw [← e6]; exact sIs_any x6 0 20000 W
    rw [HE.out]
    clear HE e0 e1 e2 e3 e4 e5 e6
    go_enter Try.func24, Try.ntmps24
    go_wp2_with fail
    refine (C0.out _).mono ?_
    rintro e w2 ⟨rfl, rfl⟩
    go_wp2_with fail
    refine (C1.out _).mono ?_
    rintro e w2 ⟨rfl, rfl⟩
    go_wp2_with fail
    refine (C2.out _).mono ?_
    rintro e w2 ⟨rfl, rfl⟩
    go_wp2_with fail
    refine (C3.out _).mono ?_
    rintro e w2 ⟨rfl, rfl⟩
    go_wp2_with fail
    refine (C4.out _).mono ?_
    rintro e w2 ⟨rfl, rfl⟩
    go_wp2_with fail
    refine (C5.out _).mono ?_
    rintro e w2 ⟨rfl, rfl⟩
    go_wp2_with fail
    refine (C6.out _).mono ?_
    rintro e w2 ⟨rfl, rfl⟩
    go_wp2
    go_ret
    exact ⟨rfl, HB.out _⟩
  have C6 : Hid (∀ W, Calls Try.prog 44 #[.int .i64 x6, .int .i64 0, .int .i64 20000] W fun e w' => e = .returned (.bool true) ∧ W = w') := fun W => by rw [← e6]; exact sIs_any x6 0 20000 W
  cases e7 : decide (0 ≤ x7 ∧ x7 ≤ 4294967295)
  · have HE : Hid (M.dumpR ⟨x1, hs, x2, x3, x4, x5, x6, x7, ps⟩ = false) := by show _ = _; unfold M.dumpR; simp only; rw [e0, e1, e2, e3, e4, e5, e6, e7]; simp
    have C7 : Hid (∀ W, Calls Try.prog 44 #[.int .i64 x7, .int .i64 0, .int .i64 4294967295] W fun e w' => e = .returned (.bool false) ∧ W = w') := fun W => by rw [← e7]; exact sIs_any x7 0 4294967295 W
    rw [HE.out]
    clear HE e0 e1 e2 e3 e4 e5 e6 e7
    go_enter Try.func24, Try.ntmps24
    go_wp2_with fail
    refine (C0.out _).mono ?_
    rintro e w2 ⟨rfl, rfl⟩
    go_wp2_with fail
    refine (C1.out _).mono ?_
    rintro e w2 ⟨rfl, rfl⟩
    go_wp2_with fail
    refine (C2.out _).mono ?_
    rintro e w2 ⟨rfl, rfl⟩
    go_wp2_with fail
    refine (C3.out _).mono ?_
    rintro e w2 ⟨rfl, rfl⟩
    go_wp2_with fail
    refine (C4.out _).mono ?_
    rintro e w2 ⟨rfl, rfl⟩
    go_wp2_with fail
    refine (C5.out _).mono ?_
    rintro e w2 ⟨rfl, rfl⟩
    go_wp2_with fail
    refine (C6.out _).mono ?_
    rintro e w2 ⟨rfl, rfl⟩
    go_wp2_with fail
    refine (C7.out _).mono ?_
    rintro e w2 ⟨rfl, rfl⟩
    go_wp2
    go_ret
    exact ⟨rfl, HB.out _⟩
  have C7 : Hid (∀ W, Calls Try.prog 44 #[.int .i64 x7, .int .i64 0, .int .i64 4294967295] W fun e w' => e = .returned (.bool true) ∧ W = w') := fun W => by rw [← e7]; exact sIs_any x7 0 4294967295 W
  by_cases h8 : n ≤ 8
  case neg =>
    have HE : Hid (M.dumpR ⟨x1, hs, x2, x3, x4, x5, x6, x7, ps⟩ = false) := by show _ = _; unfold M.dumpR; simp only; rw [decide_eq_false (show ¬ ps.length ≤ 8 by have := HN.out; omega)]; simp
    have d8 : decide (8 < (n : Int)) = true := decide_eq_true (by omega)
    rw [HE.out]
    clear HE h8 e0 e1 e2 e3 e4 e5 e6 e7
    go_enter Try.func24, Try.ntmps24
    go_wp2_with fail
    refine (C0.out _).mono ?_
    rintro e w2 ⟨rfl, rfl⟩
    go_wp2_with fail
    refine (C1.out _).mono ?_
    rintro e w2 ⟨rfl, rfl⟩
    go_wp2_with fail
    refine (C2.out _).mono ?_
    rintro e w2 ⟨rfl, rfl⟩
    go_wp2_with fail
    refine (C3.out _).mono ?_
    rintro e w2 ⟨rfl, rfl⟩
    go_wp2_with fail
    refine (C4.out _).mono ?_
    rintro e w2 ⟨rfl, rfl⟩
    go_wp2_with fail
    refine (C5.out _).mono ?_
    rintro e w2 ⟨rfl, rfl⟩
    go_wp2_with fail
    refine (C6.out _).mono ?_
    rintro e w2 ⟨rfl, rfl⟩
    go_wp2_with fail
    refine (C7.out _).mono ?_
    rintro e w2 ⟨rfl, rfl⟩
    go_wp2
    go_ret
    exact ⟨rfl, HB.out _⟩
  have HE : Hid (M.dumpR ⟨x1, hs, x2, x3, x4, x5, x6, x7, ps⟩ = ps.all M.partR) := by show _ = _; unfold M.dumpR; simp only; rw [e0, e1, e2, e3, e4, e5, e6, e7, decide_eq_true (show ps.length ≤ 8 by have := HN.out; omega)]; simp
  rw [HE.out]
  clear HE e0 e1 e2 e3 e4 e5 e6 e7
  have d8 : decide (8 < (n : Int)) = false := decide_eq_false (by omega)
  clear h8
  go_enter Try.func24, Try.ntmps24
  go_wp2_with fail
  refine (C0.out _).mono ?_
  rintro e w2 ⟨rfl, rfl⟩
  go_wp2_with fail
  refine (C1.out _).mono ?_
  rintro e w2 ⟨rfl, rfl⟩
  go_wp2_with fail
  refine (C2.out _).mono ?_
  rintro e w2 ⟨rfl, rfl⟩
  go_wp2_with fail
  refine (C3.out _).mono ?_
  rintro e w2 ⟨rfl, rfl⟩
  go_wp2_with fail
  refine (C4.out _).mono ?_
  rintro e w2 ⟨rfl, rfl⟩
  go_wp2_with fail
  refine (C5.out _).mono ?_
  rintro e w2 ⟨rfl, rfl⟩
  go_wp2_with fail
  refine (C6.out _).mono ?_
  rintro e w2 ⟨rfl, rfl⟩
  go_wp2_with fail
  refine (C7.out _).mono ?_
  rintro e w2 ⟨rfl, rfl⟩
  go_wp2
  go_loopw [3] (fun i wr => ∃ k : Nat, i = .int .i64 k ∧ k ≤ n ∧ Hid (∀ t ∈ ps.take k, M.partR t = true) ∧ Hid (Below (w.alloc (.cells #[.int .i64 x1, .string hs, .int .i64 x2, .int .i64 x3, .int .i64 x4, .int .i64 x5, .int .i64 x6, .int .i64 x7, .slice a n c] 36)).heap.size (w.alloc (.cells #[.int .i64 x1, .string hs, .int .i64 x2, .int .i64 x3, .int .i64 x4, .int .i64 x5, .int .i64 x6, .int .i64 x7, .slice a n c] 36)) wr)) (fun i _ => n - (intOf i).toNat)
  case atStart => exact ⟨0, rfl, Nat.zero_le _, (fun s hs => by simp at hs), Below.refl _ _⟩
  case round =>
    obtain ⟨k, rfl, hk, HA, HBr⟩ := hrel
    have c8 : wr.cell? ⟨w.heap.size, 8, none⟩ = some (.slice a n c) := M.bxd HBr.out 8 _ rfl
    have HW : Hid (Below w.heap.size w wr) := M.bxd_below HBr.out
    by_cases hlt : k < n
    · obtain ⟨hfl, _, _, hfa⟩ := HF.out.below HW.out
      obtain ⟨b, off, rfl, hat⟩ := hfa (by omega)
      obtain ⟨c0, c1, c2, c3⟩ := hat k (by omega)
      have hfk := List.getElem?_eq_getElem (l := ps) (i := k) (by omega)
      generalize ps[k]'(by omega) = f at c0 c1 c2 c3 hfk
      have HFK := M.hl hfk
      have CW := M.hl (sL08Part_any f.q f.l f.s f.c wr)
      have HE : Hid (M.partR ⟨f.q, f.l, f.s, f.c⟩ = M.partR f) := rfl
      clear hfk hat hfa hfl
      cases hr : M.partR f
      · rw [HE.out, hr] at CW
        have HX : Hid (ps.all M.partR = false) := by
          show _ = _
          rw [List.all_eq_false]
          exact ⟨f, List.mem_of_getElem? HFK.out, by rw [hr]; simp⟩
        clear hr HE
        go_wp2_with fail
        refine CW.out.mono ?_
        rintro e w2 ⟨rfl, hb⟩
        have HB2 : Hid (Below w.heap.size w w2) := HW.out.trans (hb.mono HW.out.size)
        clear hb c0 c1 c2 c3 c8
        go_wp2
        go_ret
        exact ⟨by rw [HX.out]; rfl, HB2.out⟩
      · rw [HE.out, hr] at CW
        have HA2 : Hid (∀ t ∈ ps.take (k + 1), M.partR t = true) := by
          show ∀ t ∈ _, _
          rw [List.take_add_one, HFK.out]
          intro t ht
          rcases List.mem_append.1 ht with h | h
          · exact HA.out t h
          · simp at h
            rw [h]; exact hr
        clear hr HE
        go_wp2_with fail
        refine CW.out.mono ?_
        rintro e w2 ⟨rfl, hb⟩
        have HB2 : Hid (Below (w.alloc (.cells #[.int .i64 x1, .string hs, .int .i64 x2, .int .i64 x3, .int .i64 x4, .int .i64 x5, .int .i64 x6, .int .i64 x7, .slice (some ⟨b, off, none⟩) n c] 36)).heap.size (w.alloc (.cells #[.int .i64 x1, .string hs, .int .i64 x2, .int .i64 x3, .int .i64 x4, .int .i64 x5, .int .i64 x6, .int .i64 x7, .slice (some ⟨b, off, none⟩) n c] 36)) w2) := HBr.out.trans (hb.mono HBr.out.size)
        clear hb c0 c1 c2 c3 c8
        go_wp2
        go_roundw
        case rel => exact ⟨k + 1, by go_num, by omega, HA2, HB2⟩
        case measure => simp [intOf]; omega
    · have HX : Hid (ps.all M.partR = true) := by
        show _ = _
        rw [List.all_eq_true]
        intro t ht
        have := HA.out
        rw [List.take_of_length_le (by have := HN.out; omega)] at this
        exact this t ht
      go_wp2
      go_ret
      exact ⟨by rw [HX.out]; rfl, HW.out⟩
end Go.Proofs.Ytpokcbcffijheab
