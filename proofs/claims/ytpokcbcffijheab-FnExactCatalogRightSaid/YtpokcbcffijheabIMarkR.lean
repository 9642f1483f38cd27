/-
  What isId, isLevel, markRight and MarksRight of the program do.
-/
import Derived.Test.YtpokcbcffijheabIFindM
import Derived.Test.YtpokcbcffijheabWide
namespace Go.Proofs.Ytpokcbcffijheab
open Go.RowKit

set_option maxHeartbeats 400000 in
theorem isId_any (n : Int) (w : World) : Calls Try.prog 46 #[.int .i64 n] w fun e w' => e = .returned (.bool (decide (1 ≤ n ∧ n ≤ 1000000))) ∧ w = w' := by
  by_cases h1 : 1 ≤ n
  · have d1 : decide (1 ≤ n) = true := decide_eq_true h1
    by_cases h2 : n ≤ 1000000
    · have d2 : decide (n ≤ 1000000) = true := decide_eq_true h2
      rw [decide_eq_true (show 1 ≤ n ∧ n ≤ 1000000 from ⟨h1, h2⟩)]
      go_enter Try.func46, Try.ntmps46
      go_wp2
      go_ret
      exact ⟨rfl, rfl⟩
    · have d2 : decide (n ≤ 1000000) = false := decide_eq_false h2
      rw [decide_eq_false (show ¬ (1 ≤ n ∧ n ≤ 1000000) from fun h => h2 h.2)]
      go_enter Try.func46, Try.ntmps46
      go_wp2
      go_ret
      exact ⟨rfl, rfl⟩
  · have d1 : decide (1 ≤ n) = false := decide_eq_false h1
    rw [decide_eq_false (show ¬ (1 ≤ n ∧ n ≤ 1000000) from fun h => h1 h.1)]
    go_enter Try.func46, Try.ntmps46
    go_wp2
    go_ret
    exact ⟨rfl, rfl⟩
set_option maxHeartbeats 400000 in
theorem isLevel_any (n : Int) (w : World) : Calls Try.prog 65 #[.int .i64 n] w fun e w' => e = .returned (.bool (decide (0 ≤ n ∧ n ≤ 5))) ∧ w = w' := by
  by_cases h1 : 0 ≤ n
  · have d1 : decide (0 ≤ n) = true := decide_eq_true h1
    by_cases h2 : n ≤ 5
    · have d2 : decide (n < 6) = true := decide_eq_true (by omega)
      rw [decide_eq_true (show 0 ≤ n ∧ n ≤ 5 from ⟨h1, h2⟩)]
      go_enter Try.func65, Try.ntmps65
      go_wp2
      go_ret
      exact ⟨rfl, rfl⟩
    · have d2 : decide (n < 6) = false := decide_eq_false (by omega)
      rw [decide_eq_false (show ¬ (0 ≤ n ∧ n ≤ 5) from fun h => h2 h.2)]
      go_enter Try.func65, Try.ntmps65
      go_wp2
      go_ret
      exact ⟨rfl, rfl⟩
  · have d1 : decide (0 ≤ n) = false := decide_eq_false h1
    rw [decide_eq_false (show ¬ (0 ≤ n ∧ n ≤ 5) from fun h => h1 h.1)]
    go_enter Try.func65, Try.ntmps65
    go_wp2
    go_ret
    exact ⟨rfl, rfl⟩

set_option maxRecDepth 100000 in
set_option maxHeartbeats 1600000 in
theorem iMarkR_any (m : M.MkD) (w : World) (a : Option Addr) (len cap : Nat) (pre : List M.MkD) (h : M.Mks w a len cap pre) (hA : M.Asc pre) (hl : len ≤ 1000000) :
    Calls Try.prog 58 #[M.mval m, .func (.func 59) #[.slice a len cap] #[]] w fun e w' => e = .returned (.bool (M.mkR pre m)) ∧ Below w.heap.size w w' := by
  have HM := M.hidm h
  have HA := M.hidm hA
  clear h hA
  obtain ⟨x, l, b⟩ := m
  show Calls Try.prog 58 #[.agg #[.int .i64 x, .int .i64 l, .int .i64 b], .func (.func 59) #[.slice a len cap] #[]] w _
  have HD : Hid (∀ W, Calls Try.prog 46 #[.int .i64 x] W fun e w' => e = .returned (.bool (decide (1 ≤ x ∧ x ≤ 1000000))) ∧ W = w') := fun W => isId_any x W
  have HE : Hid (∀ W, Calls Try.prog 65 #[.int .i64 l] W fun e w' => e = .returned (.bool (decide (0 ≤ l ∧ l ≤ 5))) ∧ W = w') := fun W => isLevel_any l W
  have HB : Hid (Below w.heap.size w (w.alloc (.cells #[.int .i64 x, .int .i64 l, .int .i64 b] 78))) := (Below.refl _ _).alloc (Nat.le_refl _) _
  unfold M.mkR
  simp only
  cases hd : decide (1 ≤ x ∧ x ≤ 1000000)
  · rw [hd] at HD
    rw [Bool.false_and]
    clear hd
    go_enter Try.func58, Try.ntmps58
    go_wp2_with (go_at_call 46; refine (HD.out _).mono ?_; rintro e w' ⟨rfl, rfl⟩)
    go_ret
    exact ⟨rfl, HB.out⟩
  rw [hd] at HD
  rw [Bool.true_and]
  clear hd
  cases he : decide (0 ≤ l ∧ l ≤ 5)
  · rw [he] at HE
    rw [Bool.false_and]
    clear he
    go_enter Try.func58, Try.ntmps58
    go_wp2_with fail
    refine (HD.out _).mono ?_
    rintro e w' ⟨rfl, rfl⟩
    go_wp2_with fail
    refine (HE.out _).mono ?_
    rintro e w' ⟨rfl, rfl⟩
    go_wp2
    go_ret
    exact ⟨rfl, HB.out⟩
  rw [he] at HE
  rw [Bool.true_and]
  have hl5 := of_decide_eq_true he
  clear he
  by_cases h0 : l = 0
  · rw [if_pos h0]
    have d0 : ((l : Int) == 0) = true := by simpa using h0
    have d1 : ((b : Int) == 0) = decide (b = 0) := rfl
    generalize decide (b = 0) = r at d1 ⊢
    clear h0 hl5
    go_enter Try.func58, Try.ntmps58
    go_wp2_with fail
    refine (HD.out _).mono ?_
    rintro e w' ⟨rfl, rfl⟩
    go_wp2_with fail
    refine (HE.out _).mono ?_
    rintro e w' ⟨rfl, rfl⟩
    go_wp2
    go_ret
    exact ⟨rfl, HB.out⟩
  rw [if_neg h0]
  have d0 : ((l : Int) == 0) = false := by simpa using h0
  have HF : Hid (∀ W, Below w.heap.size w W → Calls Try.prog 59 #[.slice a len cap, .int .i64 b] W fun e w' => e = .returned (M.fnd pre b) ∧ Below W.heap.size W w') := fun W hW => iFind_any W a len cap pre b (HM.out.below hW) HA.out hl
  clear h0 hl5 HM
  cases hf : M.found pre b with
  | none =>
    have e1 : M.fnd pre b = .tuple #[.agg #[.int .i64 0, .int .i64 0, .int .i64 0], .bool false] := by unfold M.fnd; rw [hf]; rfl
    have e2 : M.baseR pre ⟨x, l, b⟩ = false := by unfold M.baseR; rw [hf]
    rw [e1] at HF
    rw [e2]
    clear e1 e2 hf
    go_enter Try.func58, Try.ntmps58
    go_wp2_with fail
    refine (HD.out _).mono ?_
    rintro e w' ⟨rfl, rfl⟩
    go_wp2_with fail
    refine (HE.out _).mono ?_
    rintro e w' ⟨rfl, rfl⟩
    go_wp2_with fail
    refine (HF.out _ HB.out).mono ?_
    rintro e w1 ⟨rfl, hb⟩
    have b1 := M.bx hb 1 _ rfl
    have HB1 : Hid (Below w.heap.size w w1) := M.bx_below hb
    have HB2 : Hid (∀ o, Below w.heap.size w (w1.alloc o)) := fun o => HB1.out.alloc HB1.out.size _
    clear hb
    go_wp2
    go_ret
    exact ⟨rfl, HB2.out _⟩
  | some c =>
    have e1 : M.fnd pre b = .tuple #[.agg #[.int .i64 c.id, .int .i64 c.level, .int .i64 c.base], .bool true] := by unfold M.fnd; rw [hf]; rfl
    have e2 : M.baseR pre ⟨x, l, b⟩ = decide (c.level < l) := by unfold M.baseR; rw [hf]
    rw [e1] at HF
    rw [e2]
    clear e1 e2 hf
    go_enter Try.func58, Try.ntmps58
    go_wp2_with fail
    refine (HD.out _).mono ?_
    rintro e w' ⟨rfl, rfl⟩
    go_wp2_with fail
    refine (HE.out _).mono ?_
    rintro e w' ⟨rfl, rfl⟩
    go_wp2_with fail
    refine (HF.out _ HB.out).mono ?_
    rintro e w1 ⟨rfl, hb⟩
    have b1 := M.bx hb 1 _ rfl
    have HB1 : Hid (Below w.heap.size w w1) := M.bx_below hb
    have hs1 := HB1.out.size
    have HB2 : Hid (∀ o, Below w.heap.size w (w1.alloc o)) := fun o => HB1.out.alloc HB1.out.size _
    have n1 : ∀ o, (w1.alloc o).cell? ⟨w.heap.size, 1, none⟩ = some (.int .i64 l) := fun o => by rw [World.cell?_alloc_lt _ _ ⟨w.heap.size, 1, none⟩ (World.block_lt_of_cell? w1 _ b1)]; exact b1
    clear hb
    go_wp2
    go_ret
    exact ⟨rfl, HB2.out _⟩
end Go.Proofs.Ytpokcbcffijheab
