/-
  What DumpRight of the program does, with what it looks at each part by.
-/
import Derived.Test.YtpokcbcffijheabDumpMath
import Derived.Test.YtpokcbcffijheabNameRW
import Derived.Test.YtpokcbcffijheabIsIdW
import Derived.Test.YtpokcbcffijheabITime
import Derived.Test.YtpokcbcffijheabLinkBox
namespace Go.Proofs.Ytpokcbcffijheab
open Go.RowKit

set_option maxHeartbeats 400000 in
theorem iUpTo_any (n hi : Int) (w : World) :
    Calls Try.prog 64 #[.int .i64 n, .int .i64 hi] w fun e w' => e = .returned (.bool (decide (0 ≤ n ∧ n ≤ hi))) ∧ w = w' := by
  by_cases ha : 0 ≤ n
  · by_cases hb : n ≤ hi
    · have hE : Hid (decide (0 ≤ n ∧ n ≤ hi) = true) := decide_eq_true ⟨ha, hb⟩
      have d1 : decide (0 ≤ n) = true := decide_eq_true ha
      have d2 : decide (n ≤ hi) = true := decide_eq_true hb
      go_enter Try.func64, Try.ntmps64
      go_wp2
      go_ret
      exact ⟨by first | rfl | (rw [hE.out]; rfl), rfl⟩
    · have hE : Hid (decide (0 ≤ n ∧ n ≤ hi) = false) := decide_eq_false (fun h => hb h.2)
      have d1 : decide (0 ≤ n) = true := decide_eq_true ha
      have d2 : decide (n ≤ hi) = false := decide_eq_false hb
      go_enter Try.func64, Try.ntmps64
      go_wp2
      go_ret
      exact ⟨by first | rfl | (rw [hE.out]; rfl), rfl⟩
  · have hE : Hid (decide (0 ≤ n ∧ n ≤ hi) = false) := decide_eq_false (fun h => ha h.1)
    have d1 : decide (0 ≤ n) = false := decide_eq_false ha
    go_enter Try.func64, Try.ntmps64
    go_wp2
    go_ret
    exact ⟨by first | rfl | (rw [hE.out]; rfl), rfl⟩

set_option maxHeartbeats 400000 in
theorem iIsLev_any (n : Int) (w : World) :
    Calls Try.prog 65 #[.int .i64 n] w fun e w' => e = .returned (.bool (decide (0 ≤ n ∧ n ≤ 5))) ∧ w = w' := by
  by_cases ha : 0 ≤ n
  · by_cases hb : n ≤ 5
    · have hE : Hid (decide (0 ≤ n ∧ n ≤ 5) = true) := decide_eq_true ⟨ha, hb⟩
      have d1 : decide (0 ≤ n) = true := decide_eq_true ha
      have d2 : decide (n < 6) = true := decide_eq_true (by omega)
      go_enter Try.func65, Try.ntmps65
      go_wp2
      go_ret
      exact ⟨by first | rfl | (rw [hE.out]; rfl) | (rw [decide_eq_true (by omega)]; rfl) | (rw [decide_eq_false (by omega)]; rfl), rfl⟩
    · have hE : Hid (decide (0 ≤ n ∧ n ≤ 5) = false) := decide_eq_false (fun h => hb h.2)
      have d1 : decide (0 ≤ n) = true := decide_eq_true ha
      have d2 : decide (n < 6) = false := decide_eq_false (by omega)
      go_enter Try.func65, Try.ntmps65
      go_wp2
      go_ret
      exact ⟨by first | rfl | (rw [hE.out]; rfl) | (rw [decide_eq_true (by omega)]; rfl) | (rw [decide_eq_false (by omega)]; rfl), rfl⟩
  · have hE : Hid (decide (0 ≤ n ∧ n ≤ 5) = false) := decide_eq_false (fun h => ha h.1)
    have d1 : decide (0 ≤ n) = false := decide_eq_false ha
    go_enter Try.func65, Try.ntmps65
    go_wp2
    go_ret
    exact ⟨by first | rfl | (rw [hE.out]; rfl) | (rw [decide_eq_true (by omega)]; rfl) | (rw [decide_eq_false (by omega)]; rfl), rfl⟩

set_option maxRecDepth 100000 in
set_option maxHeartbeats 1600000 in
theorem iPtWrong_any (q l s c : Int) (w : World) :
    Calls Try.prog 68 #[.agg #[.int .i64 q, .int .i64 l, .int .i64 s, .int .i64 c]] w fun e w' => e = .returned (.bool (!M.partR ⟨q, l, s, c⟩)) ∧ Below w.heap.size w w' := by
  have HB : Hid (∀ o, Below w.heap.size w (w.alloc o)) := fun o => (Below.refl _ _).alloc (Nat.le_refl _) _
  have CU : Hid (∀ (v hi : Int) (u : Bool), decide (0 ≤ v ∧ v ≤ hi) = u → ∀ W, Calls Try.prog 64 #[.int .i64 v, .int .i64 hi] W fun e w' => e = .returned (.bool u) ∧ W = w') := fun v hi u hu W => by rw [← hu]; exact iUpTo_any v hi W
  unfold M.partR
  simp only
  cases e1 : decide (0 ≤ q ∧ q ≤ 7)
  · have C1 := M.hl (CU.out q 7 _ e1)
    clear e1
    go_enter Try.func68, Try.ntmps68
    go_wp2_with fail
    refine (C1.out _).mono ?_
    rintro e w2 ⟨rfl, rfl⟩
    go_wp2
    go_ret
    exact ⟨rfl, HB.out _⟩
  have C1 := M.hl (CU.out q 7 _ e1)
  cases e2 : decide (0 ≤ l ∧ l ≤ 1000000)
  · have C2 := M.hl (CU.out l 1000000 _ e2)
    clear e1 e2
    go_enter Try.func68, Try.ntmps68
    go_wp2_with fail
    refine (C1.out _).mono ?_
    rintro e w2 ⟨rfl, rfl⟩
    go_wp2_with fail
    refine (C2.out _).mono ?_
    rintro e w2 ⟨rfl, rfl⟩
    go_wp2
    go_ret
    exact ⟨rfl, HB.out _⟩
  have C2 := M.hl (CU.out l 1000000 _ e2)
  cases e3 : decide (0 ≤ s ∧ s ≤ 300)
  · have C3 := M.hl (CU.out s 300 _ e3)
    clear e1 e2 e3
    go_enter Try.func68, Try.ntmps68
    go_wp2_with fail
    refine (C1.out _).mono ?_
    rintro e w2 ⟨rfl, rfl⟩
    go_wp2_with fail
    refine (C2.out _).mono ?_
    rintro e w2 ⟨rfl, rfl⟩
    go_wp2_with fail
    refine (C3.out _).mono ?_
    rintro e w2 ⟨rfl, rfl⟩
    go_wp2
    go_ret
    exact ⟨rfl, HB.out _⟩
  have C3 := M.hl (CU.out s 300 _ e3)
  have C4 := M.hl (CU.out c 300 _ rfl)
  generalize decide (0 ≤ c ∧ c ≤ 300) = u at C4
  clear e1 e2 e3
  go_enter Try.func68, Try.ntmps68
  go_wp2_with fail
  refine (C1.out _).mono ?_
  rintro e w2 ⟨rfl, rfl⟩
  go_wp2_with fail
  refine (C2.out _).mono ?_
  rintro e w2 ⟨rfl, rfl⟩
  go_wp2_with fail
  refine (C3.out _).mono ?_
  rintro e w2 ⟨rfl, rfl⟩
  go_wp2_with fail
  refine (C4.out _).mono ?_
  rintro e w2 ⟨rfl, rfl⟩
  go_wp2
  go_ret
  exact ⟨by simp, HB.out _⟩

set_option maxRecDepth 100000 in
set_option maxHeartbeats 1600000 in
theorem iIdxPt_any (w : World) (a : Option Addr) (n c : Nat) (ts : List M.PartD) (h : M.Pts w a n c ts) :
    Calls Try.prog 93 #[.slice a n c, .func (.func 68) #[] #[]] w fun e w' => ∃ v : Int, e = .returned (.int .i64 v) ∧ -1 ≤ v ∧ v ≤ 9223372036854775807 ∧ (0 ≤ v ↔ ∃ t ∈ ts, M.partR t = false) ∧ Below w.heap.size w w' := by
  have hlm : n ≤ 9223372036854775807 := h.max
  have HF := M.hl h
  clear h
  go_enter Try.func93, Try.ntmps93
  go_wp2
  go_loopw [8] (fun i wr => ∃ k : Nat, i = .int .i64 k ∧ k ≤ n ∧ Hid (∀ t ∈ ts.take k, M.partR t = true) ∧ Hid (Below w.heap.size w wr)) (fun i _ => n - (intOf i).toNat)
  case atStart => exact ⟨0, rfl, Nat.zero_le _, (fun s hs => by simp at hs), Below.refl _ _⟩
  case round =>
    obtain ⟨k, rfl, hk, HA, HBr⟩ := hrel
    by_cases hlt : k < n
    · obtain ⟨hfl, _, _, hfa⟩ := HF.out.below HBr.out
      obtain ⟨b, off, rfl, hat⟩ := hfa (by omega)
      obtain ⟨c0, c1, c2, c3⟩ := hat k (by omega)
      have hfk := List.getElem?_eq_getElem (l := ts) (i := k) (by omega)
      generalize ts[k]'(by omega) = f at c0 c1 c2 c3 hfk
      have HFK := M.hl hfk
      have CW := M.hl (iPtWrong_any f.q f.l f.s f.c wr)
      have HE : Hid (M.partR ⟨f.q, f.l, f.s, f.c⟩ = M.partR f) := rfl
      clear hfk hat hfa hfl
      cases hr : M.partR f
      · rw [HE.out, hr] at CW
        have HX : Hid (∃ t ∈ ts, M.partR t = false) := ⟨_, List.mem_of_getElem? HFK.out, hr⟩
        clear hr HE
        go_wp2_with fail
        refine CW.out.mono ?_
        rintro e w2 ⟨rfl, hb⟩
        have HB2 : Hid (Below w.heap.size w w2) := HBr.out.trans (hb.mono HBr.out.size)
        clear hb c0 c1 c2 c3
        go_wp2
        go_ret
        exact ⟨k, rfl, by omega, by omega, ⟨fun _ => HX.out, fun _ => by omega⟩, HB2.out⟩
      · rw [HE.out, hr] at CW
        have HA2 : Hid (∀ t ∈ ts.take (k + 1), M.partR t = true) := by
          show ∀ t ∈ _, _
          rw [List.take_add_one, HFK.out]
          intro t ht
          rcases List.mem_append.1 ht with h | h
          · exact HA.out t h
          · simp at h
            rw [h]; exact hr
        clear hr HE
        go_wp2_with fail
        refine CW.out.mono ?_
        rintro e w2 ⟨rfl, hb⟩
        have HB2 : Hid (Below w.heap.size w w2) := HBr.out.trans (hb.mono HBr.out.size)
        clear hb c0 c1 c2 c3
        go_wp2
        go_roundw
        case rel => exact ⟨k + 1, by go_num, by omega, HA2, HB2⟩
        case measure => simp [intOf]; omega
    · have HX : Hid (¬ ∃ t ∈ ts, M.partR t = false) := by
        rintro ⟨t, ht, hne⟩
        have := HA.out
        rw [List.take_of_length_le (by have := HF.out.1; omega)] at this
        rw [this t ht] at hne
        cases hne
      go_wp2
      go_ret
      exact ⟨-1, rfl, by omega, by omega, ⟨fun h => by omega, fun h => absurd h HX.out⟩, HBr.out⟩

set_option maxRecDepth 100000 in
theorem iConPt_any (w : World) (a : Option Addr) (n c : Nat) (ts : List M.PartD) (h : M.Pts w a n c ts) :
    Calls Try.prog 67 #[.slice a n c, .func (.func 68) #[] #[]] w fun e w' => e = .returned (.bool (!(ts.all M.partR))) ∧ Below w.heap.size w w' := by
  have CI := M.hl (iIdxPt_any w a n c ts h)
  clear h
  go_enter Try.func67, Try.ntmps67
  go_wp2_with fail
  refine CI.out.mono ?_
  rintro e w1 ⟨v, rfl, hv1, hv2, hv, hb⟩
  have HB := M.hl hb
  clear hb
  by_cases h0 : 0 ≤ v
  · have HX : Hid ((!(ts.all M.partR)) = true) := by
      show _ = _
      obtain ⟨s, hs, hne⟩ := hv.1 h0
      rw [Bool.not_eq_true', List.all_eq_false]
      exact ⟨s, hs, by rw [hne]; simp⟩
    clear hv
    go_wp2
    go_ret
    exact ⟨by rw [HX.out]; rfl, HB.out⟩
  · have HX : Hid ((!(ts.all M.partR)) = false) := by
      show _ = _
      rw [Bool.not_eq_false', List.all_eq_true]
      intro s hs
      cases e : M.partR s
      · exact absurd (hv.2 ⟨s, hs, e⟩) h0
      · rfl
    clear hv
    have d0 : decide (0 ≤ v) = false := decide_eq_false h0
    go_wp2
    go_ret
    exact ⟨by rw [HX.out]; rfl, HB.out⟩

set_option maxRecDepth 100000 in
set_option maxHeartbeats 3200000 in
theorem iDumpR_any (w : World) (x1 : Int) (hs : ByteArray) (x2 x3 x4 x5 x6 x7 : Int) (a : Option Addr) (n c : Nat) (ps : List M.PartD) (h : M.Pts w a n c ps) (hz : hs.size ≤ maxLen) :
    Calls Try.prog 39 #[.agg #[.int .i64 x1, .string hs, .int .i64 x2, .int .i64 x3, .int .i64 x4, .int .i64 x5, .int .i64 x6, .int .i64 x7, .slice a n c]] w fun e w' => e = .returned (.bool (M.dumpR ⟨x1, hs, x2, x3, x4, x5, x6, x7, ps⟩)) ∧ Below w.heap.size w w' := by
  have hlm := h.max
  have HF := M.hl h
  have HN : Hid (n = ps.length) := h.1
  have HB : Hid (∀ o, Below w.heap.size w (w.alloc o)) := fun o => (Below.refl _ _).alloc (Nat.le_refl _) _
  have CC : Hid (∀ o, Calls Try.prog 67 #[.slice a n c, .func (.func 68) #[] #[]] (w.alloc o) fun e w' => e = .returned (.bool (!(ps.all M.partR))) ∧ Below (w.alloc o).heap.size (w.alloc o) w') := fun o => iConPt_any _ a n c ps (h.below (HB.out o))
  clear h
  cases e0 : decide (1 ≤ x1 ∧ x1 ≤ 1000000)
  · have HE : Hid (M.dumpR ⟨x1, hs, x2, x3, x4, x5, x6, x7, ps⟩ = false) := by show _ = _; unfold M.dumpR; simp only; rw [e0]; simp
    have C0 : Hid (∀ W, Calls Try.prog 46 #[.int .i64 x1] W fun e w' => e = .returned (.bool false) ∧ W = w') := fun W => by rw [← e0]; exact iIsId_any x1 W
    rw [HE.out]
    clear HE e0
    go_enter Try.func39, Try.ntmps39
    go_wp2_with fail
    refine (C0.out _).mono ?_
    rintro e w2 ⟨rfl, rfl⟩
    go_wp2
    go_ret
    exact ⟨rfl, HB.out _⟩
  have C0 : Hid (∀ W, Calls Try.prog 46 #[.int .i64 x1] W fun e w' => e = .returned (.bool true) ∧ W = w') := fun W => by rw [← e0]; exact iIsId_any x1 W
  cases e1 : M.nameR hs
  · have HE : Hid (M.dumpR ⟨x1, hs, x2, x3, x4, x5, x6, x7, ps⟩ = false) := by show _ = _; unfold M.dumpR; simp only; rw [e0, e1]; simp
    have C1 : Hid (∀ W, Calls Try.prog 63 #[.string hs] W fun e w' => e = .returned (.bool false) ∧ W = w') := fun W => by rw [← e1]; exact iNameRight_any hs W hz
    rw [HE.out]
    clear HE e0 e1
    go_enter Try.func39, Try.ntmps39
    go_wp2_with fail
    refine (C0.out _).mono ?_
    rintro e w2 ⟨rfl, rfl⟩
    go_wp2_with fail
    refine (C1.out _).mono ?_
    rintro e w2 ⟨rfl, rfl⟩
    go_wp2
    go_ret
    exact ⟨rfl, HB.out _⟩
  have C1 : Hid (∀ W, Calls Try.prog 63 #[.string hs] W fun e w' => e = .returned (.bool true) ∧ W = w') := fun W => by rw [← e1]; exact iNameRight_any hs W hz
  cases e2 : decide (0 ≤ x2 ∧ x2 ≤ 1000000)
  · have HE : Hid (M.dumpR ⟨x1, hs, x2, x3, x4, x5, x6, x7, ps⟩ = false) := by show _ = _; unfold M.dumpR; simp only; rw [e0, e1, e2]; simp
    have C2 : Hid (∀ W, Calls Try.prog 64 #[.int .i64 x2, .int .i64 1000000] W fun e w' => e = .returned (.bool false) ∧ W = w') := fun W => by rw [← e2]; exact iUpTo_any x2 1000000 W
    rw [HE.out]
    clear HE e0 e1 e2
    go_enter Try.func39, Try.ntmps39
    go_wp2_with fail
    refine (C0.out _).mono ?_
    rintro e w2 ⟨rfl, rfl⟩
    go_wp2_with fail
    refine (C1.out _).mono ?_
    rintro e w2 ⟨rfl, rfl⟩
    go_wp2_with fail
    refine (C2.out _).mono ?_
    rintro e w2 ⟨rfl, rfl⟩
    go_wp2
    go_ret
    exact ⟨rfl, HB.out _⟩
  have C2 : Hid (∀ W, Calls Try.prog 64 #[.int .i64 x2, .int .i64 1000000] W fun e w' => e = .returned (.bool true) ∧ W = w') := fun W => by rw [← e2]; exact iUpTo_any x2 1000000 W
  cases e3 : decide (0 ≤ x3 ∧ x3 ≤ 5)
  · have HE : Hid (M.dumpR ⟨x1, hs, x2, x3, x4, x5, x6, x7, ps⟩ = false) := by show _ = _; unfold M.dumpR; simp only; rw [e0, e1, e2, e3]; simp
    have C3 : Hid (∀ W, Calls Try.prog 65 #[.int .i64 x3] W fun e w' => e = .returned (.bool false) ∧ W = w') := fun W => by rw [← e3]; exact iIsLev_any x3 W
    rw [HE.out]
    clear HE e0 e1 e2 e3
    go_enter Try.func39, Try.ntmps39
    go_wp2_with fail
    refine (C0.out _).mono ?_
    rintro e w2 ⟨rfl, rfl⟩
    go_wp2_with fail
    refine (C1.out _).mono ?_
    rintro e w2 ⟨rfl, rfl⟩
    go_wp2_with fail
    refine (C2.out _).mono ?_
    rintro e w2 ⟨rfl, rfl⟩
    go_wp2_with fail
    refine (C3.out _).mono ?_
    rintro e w2 ⟨rfl, rfl⟩
    go_wp2
    go_ret
    exact ⟨rfl, HB.out _⟩
  have C3 : Hid (∀ W, Calls Try.prog 65 #[.int .i64 x3] W fun e w' => e = .returned (.bool true) ∧ W = w') := fun W => by rw [← e3]; exact iIsLev_any x3 W
  cases e4 : decide (0 ≤ x4 ∧ x4 ≤ 1000000)
  · have HE : Hid (M.dumpR ⟨x1, hs, x2, x3, x4, x5, x6, x7, ps⟩ = false) := by show _ = _; unfold M.dumpR; simp only; rw [e0, e1, e2, e3, e4]; simp
    have C4 : Hid (∀ W, Calls Try.prog 64 #[.int .i64 x4, .int .i64 1000000] W fun e w' => e = .returned (.bool false) ∧ W = w') := fun W => by rw [← e4]; exact iUpTo_any x4 1000000 W
    rw [HE.out]
    clear HE e0 e1 e2 e3 e4
    go_enter Try.func39, Try.ntmps39
    go_wp2_with fail
    refine (C0.out _).mono ?_
    rintro e w2 ⟨rfl, rfl⟩
    go_wp2_with fail
    refine (C1.out _).mono ?_
    rintro e w2 ⟨rfl, rfl⟩
    go_wp2_with fail
    refine (C2.out _).mono ?_
    rintro e w2 ⟨rfl, rfl⟩
    go_wp2_with fail
    refine (C3.out _).mono ?_
    rintro e w2 ⟨rfl, rfl⟩
    go_wp2_with fail
    refine (C4.out _).mono ?_
    rintro e w2 ⟨rfl, rfl⟩
    go_wp2
    go_ret
    exact ⟨rfl, HB.out _⟩
  have C4 : Hid (∀ W, Calls Try.prog 64 #[.int .i64 x4, .int .i64 1000000] W fun e w' => e = .returned (.bool true) ∧ W = w') := fun W => by rw [← e4]; exact iUpTo_any x4 1000000 W
  cases e5 : decide (0 ≤ x5 ∧ x5 ≤ 1000000000)
  · have HE : Hid (M.dumpR ⟨x1, hs, x2, x3, x4, x5, x6, x7, ps⟩ = false) := by show _ = _; unfold M.dumpR; simp only; rw [e0, e1, e2, e3, e4, e5]; simp
    have C5 : Hid (∀ W, Calls Try.prog 66 #[.int .i64 x5] W fun e w' => e = .returned (.bool false) ∧ W = w') := fun W => by rw [← e5]; exact iTime_any x5 W
    rw [HE.out]
    clear HE e0 e1 e2 e3 e4 e5
    go_enter Try.func39, Try.ntmps39
    go_wp2_with fail
    refine (C0.out _).mono ?_
    rintro e w2 ⟨rfl, rfl⟩
    go_wp2_with fail
    refine (C1.out _).mono ?_
    rintro e w2 ⟨rfl, rfl⟩
    go_wp2_with fail
    refine (C2.out _).mono ?_
    rintro e w2 ⟨rfl, rfl⟩
    go_wp2_with fail
    refine (C3.out _).mono ?_
    rintro e w2 ⟨rfl, rfl⟩
    go_wp2_with fail
    refine (C4.out _).mono ?_
    rintro e w2 ⟨rfl, rfl⟩
    go_wp2_with fail
    refine (C5.out _).mono ?_
    rintro e w2 ⟨rfl, rfl⟩
    go_wp2
    go_ret
    exact ⟨rfl, HB.out _⟩
  have C5 : Hid (∀ W, Calls Try.prog 66 #[.int .i64 x5] W fun e w' => e = .returned (.bool true) ∧ W = w') := fun W => by rw [← e5]; exact iTime_any x5 W
  cases e6 : decide (0 ≤ x6 ∧ x6 ≤ 20000)
  · have HE : Hid (M.dumpR ⟨x1, hs, x2, x3, x4, x5, x6, x7, ps⟩ = false) := by show _ = _; unfold M.dumpR; simp only; rw [e0, e1, e2, e3, e4, e5, e6]; simp
    have C6 : Hid (∀ W, Calls Try.prog 64 #[.int .i64 x6, .int .i64 20000] W fun e w' => e = .returned (.bool false) ∧ W = w') := fun W => by rw [← e6]; exact iUpTo_any x6 20000 W
    rw [HE.out]
    clear HE e0 e1 e2 e3 e4 e5 e6
    go_enter Try.func39, Try.ntmps39
    go_wp2_with fail
    refine (C0.out _).mono ?_
    rintro e w2 ⟨rfl, rfl⟩
    go_wp2_with fail
    refine (C1.out _).mono ?_
    rintro e w2 ⟨rfl, rfl⟩
    go_wp2_with fail
    refine (C2.out _).mono ?_
    rintro e w2 ⟨rfl, rfl⟩
    go_wp2_with fail
    refine (C3.out _).mono ?_
    rintro e w2 ⟨rfl, rfl⟩
    go_wp2_with fail
    refine (C4.out _).mono ?_
    rintro e w2 ⟨rfl, rfl⟩
    go_wp2_with fail
    refine (C5.out _).mono ?_
    rintro e w2 ⟨rfl, rfl⟩
    go_wp2_with fail
    refine (C6.out _).mono ?_
    rintro e w2 ⟨rfl, rfl⟩
    go_wp2
    go_ret
    exact ⟨rfl, HB.out _⟩
  have C6 : Hid (∀ W, Calls Try.prog 64 #[.int .i64 x6, .int .i64 20000] W fun e w' => e = .returned (.bool true) ∧ W = w') := fun W => by rw [← e6]; exact iUpTo_any x6 20000 W
  cases e7 : decide (0 ≤ x7 ∧ x7 ≤ 4294967295)
  · have HE : Hid (M.dumpR ⟨x1, hs, x2, x3, x4, x5, x6, x7, ps⟩ = false) := by show _ = _; unfold M.dumpR; simp only; rw [e0, e1, e2, e3, e4, e5, e6, e7]; simp
    have C7 : Hid (∀ W, Calls Try.prog 64 #[.int .i64 x7, .int .i64 4294967295] W fun e w' => e = .returned (.bool false) ∧ W = w') := fun W => by rw [← e7]; exact iUpTo_any x7 4294967295 W
    rw [HE.out]
    clear HE e0 e1 e2 e3 e4 e5 e6 e7
    go_enter Try.func39, Try.ntmps39
    go_wp2_with fail
    refine (C0.out _).mono ?_
    rintro e w2 ⟨rfl, rfl⟩
    go_wp2_with fail
    refine (C1.out _).mono ?_
    rintro e w2 ⟨rfl, rfl⟩
    go_wp2_with fail
    refine (C2.out _).mono ?_
    rintro e w2 ⟨rfl, rfl⟩
    go_wp2_with fail
    refine (C3.out _).mono ?_
    rintro e w2 ⟨rfl, rfl⟩
    go_wp2_with fail
    refine (C4.out _).mono ?_
    rintro e w2 ⟨rfl, rfl⟩
    go_wp2_with fail
    refine (C5.out _).mono ?_
    rintro e w2 ⟨rfl, rfl⟩
    go_wp2_with fail
    refine (C6.out _).mono ?_
    rintro e w2 ⟨rfl, rfl⟩
    go_wp2_with fail
    refine (C7.out _).mono ?_
    rintro e w2 ⟨rfl, rfl⟩
    go_wp2
    go_ret
    exact ⟨rfl, HB.out _⟩
  have C7 : Hid (∀ W, Calls Try.prog 64 #[.int .i64 x7, .int .i64 4294967295] W fun e w' => e = .returned (.bool true) ∧ W = w') := fun W => by rw [← e7]; exact iUpTo_any x7 4294967295 W
  by_cases h8 : n ≤ 8
  case neg =>
    have HE : Hid (M.dumpR ⟨x1, hs, x2, x3, x4, x5, x6, x7, ps⟩ = false) := by show _ = _; unfold M.dumpR; simp only; rw [decide_eq_false (show ¬ ps.length ≤ 8 by have := HN.out; omega)]; simp
    have d8 : decide ((n : Int) ≤ 8) = false := decide_eq_false (by omega)
    rw [HE.out]
    clear HE h8 e0 e1 e2 e3 e4 e5 e6 e7
    go_enter Try.func39, Try.ntmps39
    go_wp2_with fail
    refine (C0.out _).mono ?_
    rintro e w2 ⟨rfl, rfl⟩
    go_wp2_with fail
    refine (C1.out _).mono ?_
    rintro e w2 ⟨rfl, rfl⟩
    go_wp2_with fail
    refine (C2.out _).mono ?_
    rintro e w2 ⟨rfl, rfl⟩
    go_wp2_with fail
    refine (C3.out _).mono ?_
    rintro e w2 ⟨rfl, rfl⟩
    go_wp2_with fail
    refine (C4.out _).mono ?_
    rintro e w2 ⟨rfl, rfl⟩
    go_wp2_with fail
    refine (C5.out _).mono ?_
    rintro e w2 ⟨rfl, rfl⟩
    go_wp2_with fail
    refine (C6.out _).mono ?_
    rintro e w2 ⟨rfl, rfl⟩
    go_wp2_with fail
    refine (C7.out _).mono ?_
    rintro e w2 ⟨rfl, rfl⟩
    go_wp2
    go_ret
    exact ⟨rfl, HB.out _⟩
  have HE : Hid (M.dumpR ⟨x1, hs, x2, x3, x4, x5, x6, x7, ps⟩ = ps.all M.partR) := by show _ = _; unfold M.dumpR; simp only; rw [e0, e1, e2, e3, e4, e5, e6, e7, decide_eq_true (show ps.length ≤ 8 by have := HN.out; omega)]; simp
  rw [HE.out]
  clear HE e0 e1 e2 e3 e4 e5 e6 e7
  have d8 : decide ((n : Int) ≤ 8) = true := decide_eq_true (by omega)
  generalize ps.all M.partR = u at CC
  clear h8
  go_enter Try.func39, Try.ntmps39
  go_wp2_with fail
  refine (C0.out _).mono ?_
  rintro e w2 ⟨rfl, rfl⟩
  go_wp2_with fail
  refine (C1.out _).mono ?_
  rintro e w2 ⟨rfl, rfl⟩
  go_wp2_with fail
  refine (C2.out _).mono ?_
  rintro e w2 ⟨rfl, rfl⟩
  go_wp2_with fail
  refine (C3.out _).mono ?_
  rintro e w2 ⟨rfl, rfl⟩
  go_wp2_with fail
  refine (C4.out _).mono ?_
  rintro e w2 ⟨rfl, rfl⟩
  go_wp2_with fail
  refine (C5.out _).mono ?_
  rintro e w2 ⟨rfl, rfl⟩
  go_wp2_with fail
  refine (C6.out _).mono ?_
  rintro e w2 ⟨rfl, rfl⟩
  go_wp2_with fail
  refine (C7.out _).mono ?_
  rintro e w2 ⟨rfl, rfl⟩
  go_wp2_with fail
  refine (CC.out _).mono ?_
  rintro e w3 ⟨rfl, hb⟩
  have B3 := M.hl ((HB.out _).trans (hb.mono (HB.out _).size))
  clear hb
  go_wp2
  go_ret
  exact ⟨by simp, B3.out⟩
end Go.Proofs.Ytpokcbcffijheab
