/-
  What SendAck of the program does.
-/
import Derived.Test.YtafenhodfoflbabAckMath
import Derived.Test.YtafenhodfoflbabISendR
import Derived.Test.YtafenhodfoflbabITime
namespace Go.Proofs.Ytafenhodfoflbab
open Go.RowKit

set_option maxRecDepth 100000 in
set_option maxHeartbeats 3200000 in
theorem iSendAck_any (w : World) (ad : Addr) (n c : Nat) (ss : List ByteArray) (x d t k now : Int) (h : M.Strs w (some ad) n c ss) (h64 : ∀ s ∈ ss, (s.size : Int) ≤ 1048576) (hl : n ≤ 1048576) :
    Calls Try.prog 21 #[.agg #[.slice (some ad) n c, .int .i64 x, .int .i64 d, .int .i64 t], .int .i64 k, .int .i64 now] w fun e w' => ∃ (v : Value) (y0 y1 y2 : Int), e = .returned (.agg #[v, .int .i64 y0, .int .i64 y1, .int .i64 y2]) ∧ M.ackOut ss x d t k now y0 y1 y2 ∧ M.OwnS w' w.heap.size v ss ∧ Below w.heap.size w w' := by
  have HB : Hid (∀ o1 o2, Below w.heap.size w ((w.alloc o1).alloc o2)) := fun o1 o2 => ((Below.refl _ _).alloc (Nat.le_refl _) _).alloc (by simp) _
  have CC : Hid (∀ o1 o2, Calls Try.prog 46 #[.agg #[.slice (some ad) n c, .int .i64 x, .int .i64 d, .int .i64 t]] ((w.alloc o1).alloc o2) fun e w' => ∃ v, e = .returned (.agg #[v, .int .i64 x, .int .i64 d, .int .i64 t]) ∧ M.OwnS w' (w.heap.size + 1 + 1) v ss ∧ Below ((w.alloc o1).alloc o2).heap.size ((w.alloc o1).alloc o2) w') := fun o1 o2 => by
    have := iSCopy_any _ (some ad) n c ss x d t (h.below (HB.out o1 o2)) (fun s hs => by have := h64 s hs; omega) hl
    simpa using this
  have CR : Hid (∀ W, Below w.heap.size w W → Calls Try.prog 12 #[.agg #[.slice (some ad) n c, .int .i64 x, .int .i64 d, .int .i64 t]] W fun e w' => e = .returned (.bool (M.sndR ss x d t)) ∧ Below W.heap.size W w') := fun W hW => iSendR_any W (some ad) n c ss x d t (h.below hW) (fun s hs => by have := h64 s hs; unfold maxLen; omega)
  have CT : Hid (∀ W, Calls Try.prog 45 #[.int .i64 now] W fun e w' => e = .returned (.bool (decide (0 ≤ now ∧ now ≤ 1000000000))) ∧ W = w') := fun W => iTime_any now W
  have HN : Hid (n = ss.length) := h.1
  clear h h64
  go_enter Try.func21, Try.ntmps21
  go_wp2_with fail
  refine (CC.out _ _).mono ?_
  rintro e w1 ⟨v, rfl, hO, hb⟩
  have O1 := M.hl hO
  have B1 : Hid (Below w.heap.size w w1) := (HB.out _ _).trans (hb.mono (HB.out _ _).size)
  obtain ⟨t0, t1⟩ := M.thr2 w (.cells #[.slice (some ad) n c, .int .i64 x, .int .i64 d, .int .i64 t] 27) (.cells #[.slice none 0 0, .int .i64 0, .int .i64 0, .int .i64 0] 27)
  have U0 := M.hl ((hb.block w.heap.size (by simp; omega)).trans t0)
  have U1 := M.hl ((hb.block (w.heap.size + 1) (by simp)).trans t1)
  have hsz : w.heap.size + 1 < w1.heap.size := by have := hb.size; simp at this; omega
  obtain ⟨a', cap', rfl⟩ := hO.len
  have AL : Hid (∀ o b, b < w1.heap.size → (w1.alloc o).heap[b]? = w1.heap[b]?) := fun o b hb' => heap_alloc_old _ _ hb'
  have BA : Hid (∀ o, Below w.heap.size w (w1.alloc o)) := fun o => B1.out.alloc B1.out.size _
  have g0 : ∀ o, (w1.alloc o).cell? ⟨w.heap.size, 0, none⟩ = some (.slice (some ad) n c) := fun o => M.bk_cell ((AL.out o _ (by omega)).trans U0.out) 0 _ rfl
  have g1 : ∀ o, (w1.alloc o).cell? ⟨w.heap.size, 1, none⟩ = some (.int .i64 x) := fun o => M.bk_cell ((AL.out o _ (by omega)).trans U0.out) 1 _ rfl
  have g2 : ∀ o, (w1.alloc o).cell? ⟨w.heap.size, 2, none⟩ = some (.int .i64 d) := fun o => M.bk_cell ((AL.out o _ (by omega)).trans U0.out) 2 _ rfl
  have g3 : ∀ o, (w1.alloc o).cell? ⟨w.heap.size, 3, none⟩ = some (.int .i64 t) := fun o => M.bk_cell ((AL.out o _ (by omega)).trans U0.out) 3 _ rfl
  clear hO hb t0 t1
  go_wp2_with fail
  refine (CR.out _ (BA.out _)).mono ?_
  rintro e w3 ⟨rfl, hb3⟩
  have B3 := M.hl (M.sl (BA.out _) hb3)
  have u0 := (hb3.block w.heap.size (by simp; omega)).trans ((AL.out _ _ (by omega)).trans U0.out)
  have u1 := (hb3.block (w.heap.size + 1) (by simp; omega)).trans ((AL.out _ _ (by omega)).trans U1.out)
  have u2 := (hb3.block w1.heap.size (by simp)).trans (heap_alloc_new _ _)
  have k0 := M.bk_cell u0 0 (.slice (some ad) n c) rfl
  have k1 := M.bk_cell u0 1 (.int .i64 x) rfl
  have r0 := M.bk_cell u1 0 (.slice none 0 0) rfl
  have r1 := M.bk_cell u1 1 (.int .i64 0) rfl
  have r2 := M.bk_cell u1 2 (.int .i64 0) rfl
  have r3 := M.bk_cell u1 3 (.int .i64 0) rfl
  have q0 := M.bk_cell u2 0 (.slice a' ss.length cap') rfl
  have q1 := M.bk_cell u2 1 (.int .i64 x) rfl
  have q2 := M.bk_cell u2 2 (.int .i64 d) rfl
  have q3 := M.bk_cell u2 3 (.int .i64 t) rfl
  have fr := M.bk_free u1
  have fq := M.bk_free u2
  have O3 := M.hl ((O1.out.below (W := w1.alloc _) ((Below.refl _ _).alloc (Nat.le_refl _) _)).below hb3)
  have NE : Hid (∀ g, (Value.slice a' ss.length cap').ownBlock = some g → g ≠ w1.heap.size) := fun g hg => by have := (World.ownsRow.lt O1.out g hg).2; omega
  clear hb3 u0 u1 u2 g0 g1 g2 g3
  cases hr : M.sndR ss x d t
  · have HNO : Hid (¬ M.ackR ss x d t k now) := fun h => by have := h.1; rw [hr] at this; cases this
    clear hr
    go_wp2
    refine bodyPost_ret (v := .agg #[.slice a' ss.length cap', .int .i64 x, .int .i64 d, .int .i64 t]) (by simp [results, Try.results21, go_sem, r0, r1, r2, r3]) rfl ⟨_, _, _, _, rfl, M.ackOut.no HNO.out, ?_, ?_⟩
    · exact ((((O3.out.setLow (by omega) _ _).setLow (by omega) _ _).setLow (by omega) _ _).setLow (by omega) _ _).lower (by omega)
    · exact (((B3.out.setCell (by simp) _).setCell (by simp) _).setCell (by simp) _).setCell (by simp) _
  have HR := M.hl hr
  clear hr
  go_wp2_with fail
  refine (CT.out _).mono ?_
  rintro e w4 ⟨rfl, rfl⟩
  by_cases ht : 0 ≤ now ∧ now ≤ 1000000000
  case neg =>
    have HNO : Hid (¬ M.ackR ss x d t k now) := fun h => ht h.2.1
    rw [decide_eq_false ht]
    clear ht
    go_wp2
    refine bodyPost_ret (v := .agg #[.slice a' ss.length cap', .int .i64 x, .int .i64 d, .int .i64 t]) (by simp [results, Try.results21, go_sem, r0, r1, r2, r3]) rfl ⟨_, _, _, _, rfl, M.ackOut.no HNO.out, ?_, ?_⟩
    · exact ((((O3.out.setLow (by omega) _ _).setLow (by omega) _ _).setLow (by omega) _ _).setLow (by omega) _ _).lower (by omega)
    · exact (((B3.out.setCell (by simp) _).setCell (by simp) _).setCell (by simp) _).setCell (by simp) _
  have HT := M.hl ht
  rw [decide_eq_true ht]
  clear ht
  by_cases h1 : x < k
  case neg =>
    have HNO : Hid (¬ M.ackR ss x d t k now) := fun h => h1 h.2.2.1
    have e1 : decide (x < k) = false := decide_eq_false (by omega)
    clear h1
    go_wp2
    refine bodyPost_ret (v := .agg #[.slice a' ss.length cap', .int .i64 x, .int .i64 d, .int .i64 t]) (by simp [results, Try.results21, go_sem, r0, r1, r2, r3]) rfl ⟨_, _, _, _, rfl, M.ackOut.no HNO.out, ?_, ?_⟩
    · exact ((((O3.out.setLow (by omega) _ _).setLow (by omega) _ _).setLow (by omega) _ _).setLow (by omega) _ _).lower (by omega)
    · exact (((B3.out.setCell (by simp) _).setCell (by simp) _).setCell (by simp) _).setCell (by simp) _
  have e1 : decide (x < k) = true := decide_eq_true (by omega)
  by_cases h2 : k ≤ (n : Int)
  case neg =>
    have HNO : Hid (¬ M.ackR ss x d t k now) := fun h => h2 (by rw [HN.out]; exact h.2.2.2)
    have e2 : decide (k ≤ (n : Int)) = false := decide_eq_false (by omega)
    clear h1 h2
    go_wp2
    refine bodyPost_ret (v := .agg #[.slice a' ss.length cap', .int .i64 x, .int .i64 d, .int .i64 t]) (by simp [results, Try.results21, go_sem, r0, r1, r2, r3]) rfl ⟨_, _, _, _, rfl, M.ackOut.no HNO.out, ?_, ?_⟩
    · exact ((((O3.out.setLow (by omega) _ _).setLow (by omega) _ _).setLow (by omega) _ _).setLow (by omega) _ _).lower (by omega)
    · exact (((B3.out.setCell (by simp) _).setCell (by simp) _).setCell (by simp) _).setCell (by simp) _
  have e2 : decide (k ≤ (n : Int)) = true := decide_eq_true (by omega)
  have HY : Hid (M.ackR ss x d t k now) := ⟨HR.out, HT.out, h1, by rw [← HN.out]; exact h2⟩
  clear h1 h2
  go_wp2
  refine bodyPost_ret (v := .agg #[.slice a' ss.length cap', .int .i64 k, .int .i64 now, .int .i64 1]) (by simp [results, Try.results21, go_sem, r0, r1, r2, r3]) rfl ⟨_, _, _, _, rfl, M.ackOut.yes HY.out, ?_, ?_⟩
  · exact (((((((O3.out.setAt NE.out _ _).setAt NE.out _ _).setAt NE.out _ _).setLow (by omega) _ _).setLow (by omega) _ _).setLow (by omega) _ _).setLow (by omega) _ _).lower (by omega)
  · exact ((((((B3.out.setCell (by simp; omega) _).setCell (by simp; omega) _).setCell (by simp; omega) _).setCell (by simp) _).setCell (by simp) _).setCell (by simp) _).setCell (by simp) _
end Go.Proofs.Ytafenhodfoflbab
