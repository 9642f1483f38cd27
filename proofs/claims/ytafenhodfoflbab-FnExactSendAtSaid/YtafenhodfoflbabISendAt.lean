/-
  What SendAt of the program does.
-/
import Derived.Test.YtafenhodfoflbabAtMath
import Derived.Test.YtafenhodfoflbabISendR
import Derived.Test.YtafenhodfoflbabITime
import Derived.Test.YtafenhodfoflbabIWin
import Derived.Deep.RegionWith
namespace Go.Proofs.Ytafenhodfoflbab
open Go.RowKit

set_option maxRecDepth 100000 in
set_option maxHeartbeats 6400000 in
theorem iSendAt_any (w : World) (a : Option Addr) (n c : Nat) (ss : List ByteArray) (x d t now : Int) (h : M.Strs w a n c ss) (h64 : ∀ s ∈ ss, (s.size : Int) ≤ 1048576) (hl : n ≤ 1048576) :
    Calls Try.prog 15 #[.agg #[.slice a n c, .int .i64 x, .int .i64 d, .int .i64 t], .int .i64 now] w fun e w' => M.AtVal ss x d t now w.heap.size e w' ∧ Below w.heap.size w w' := by
  have HB : Hid (∀ o1 o2, Below w.heap.size w ((w.alloc o1).alloc o2)) := fun o1 o2 => ((Below.refl _ _).alloc (Nat.le_refl _) _).alloc (by simp) _
  have CR : Hid (∀ W, Below w.heap.size w W → Calls Try.prog 12 #[.agg #[.slice a n c, .int .i64 x, .int .i64 d, .int .i64 t]] W fun e w' => e = .returned (.bool (M.sndR ss x d t)) ∧ Below W.heap.size W w') := fun W hW => iSendR_any W a n c ss x d t (h.below hW) (fun s hs => by have := h64 s hs; unfold maxLen; omega)
  have CC : Hid (∀ W, Below w.heap.size w W → Calls Try.prog 46 #[.agg #[.slice a n c, .int .i64 x, .int .i64 d, .int .i64 t]] W fun e w' => ∃ v, e = .returned (.agg #[v, .int .i64 x, .int .i64 d, .int .i64 t]) ∧ M.OwnS w' W.heap.size v ss ∧ Below W.heap.size W w') := fun W hW => iSCopy_any W a n c ss x d t (h.below hW) (fun s hs => by have := h64 s hs; omega) hl
  have CT : Hid (∀ W, Calls Try.prog 45 #[.int .i64 now] W fun e w' => e = .returned (.bool (decide (0 ≤ now ∧ now ≤ 1000000000))) ∧ W = w') := fun W => iTime_any now W
  have HS := M.hl h
  have HN : Hid (n = ss.length) := h.1
  clear h h64
  go_enter Try.func15, Try.ntmps15
  go_wp2_with fail
  refine (CR.out _ (HB.out _ _)).mono ?_
  rintro e w1 ⟨rfl, hb⟩
  have B1 := M.hl (M.sl (HB.out _ _) hb)
  obtain ⟨t0, t1⟩ := M.thr2 w (.cells #[.slice a n c, .int .i64 x, .int .i64 d, .int .i64 t] 27) (.cells #[.slice none 0 0, .int .i64 0, .int .i64 0, .int .i64 0, .slice none 0 0, .int .i64 0, .slice none 0 0, .int .i64 0, .int .i64 0] 35)
  have U0 := M.hl ((hb.block w.heap.size (by simp; omega)).trans t0)
  have U1 := M.hl ((hb.block (w.heap.size + 1) (by simp)).trans t1)
  have hsz : w.heap.size + 1 < w1.heap.size := by have := hb.size; simp at this; omega
  clear hb t0 t1
  have r0 := M.bk_cell U1.out 0 _ rfl
  have r1 := M.bk_cell U1.out 1 _ rfl
  have r2 := M.bk_cell U1.out 2 _ rfl
  have r3 := M.bk_cell U1.out 3 _ rfl
  have r4 := M.bk_cell U1.out 4 _ rfl
  have r5 := M.bk_cell U1.out 5 _ rfl
  have r6 := M.bk_cell U1.out 6 _ rfl
  have r7 := M.bk_cell U1.out 7 _ rfl
  have r8 := M.bk_cell U1.out 8 _ rfl
  have fr := M.bk_free U1.out
  have BAD : Hid (¬ M.atR ss x d t now → ∃ (v pv : Value) (sv : List ByteArray) (y0 y1 y2 : Int) (ps : List M.PktD) (code : Int), Ending.returned (.agg #[.slice none 0 0, .int .i64 0, .int .i64 0, .int .i64 0, .slice none 0 0, .int .i64 0, .slice none 0 0, .int .i64 0, .int .i64 1]) = .returned (.agg #[v, .int .i64 y0, .int .i64 y1, .int .i64 y2, .slice none 0 0, .int .i64 0, pv, .int .i64 0, .int .i64 code]) ∧ M.AtOut ss x d t now sv y0 y1 y2 ps code ∧ (∀ W, M.OwnS W w.heap.size v sv ∧ M.OwnP W w.heap.size pv ps)) := fun hn => ⟨_, _, [], 0, 0, 0, [], 1, rfl, .inl ⟨hn, rfl, rfl, rfl, rfl, rfl, rfl⟩, fun W => ⟨M.OwnS.nil _ _, M.OwnP.nil _ _⟩⟩
  cases hr : M.sndR ss x d t
  · have HNO : Hid (¬ M.atR ss x d t now) := fun h => by have := h.1; rw [hr] at this; cases this
    clear hr
    go_wp2
    refine bodyPost_ret (v := .agg #[.slice none 0 0, .int .i64 0, .int .i64 0, .int .i64 0, .slice none 0 0, .int .i64 0, .slice none 0 0, .int .i64 0, .int .i64 1]) (by simp [results, Try.results15, go_sem, r0, r1, r2, r3, r4, r5, r6, r7, r8]) rfl ?_
    obtain ⟨v, pv, sv, y0, y1, y2, ps, code, he, ho, hO⟩ := BAD.out HNO.out
    exact ⟨⟨v, pv, sv, y0, y1, y2, ps, code, he, ho, (hO _).1, (hO _).2⟩, ((((((((B1.out.setCell (by simp) _).setCell (by simp) _).setCell (by simp) _).setCell (by simp) _).setCell (by simp) _).setCell (by simp) _).setCell (by simp) _).setCell (by simp) _).setCell (by simp) _⟩
  have HR := M.hl hr
  clear hr
  go_wp2_with fail
  refine (CT.out _).mono ?_
  rintro e w1' ⟨rfl, rfl⟩
  by_cases ht : 0 ≤ now ∧ now ≤ 1000000000
  case neg =>
    have HNO : Hid (¬ M.atR ss x d t now) := fun h => ht h.2
    rw [decide_eq_false ht]
    clear ht
    go_wp2
    refine bodyPost_ret (v := .agg #[.slice none 0 0, .int .i64 0, .int .i64 0, .int .i64 0, .slice none 0 0, .int .i64 0, .slice none 0 0, .int .i64 0, .int .i64 1]) (by simp [results, Try.results15, go_sem, r0, r1, r2, r3, r4, r5, r6, r7, r8]) rfl ?_
    obtain ⟨v, pv, sv, y0, y1, y2, ps, code, he, ho, hO⟩ := BAD.out HNO.out
    exact ⟨⟨v, pv, sv, y0, y1, y2, ps, code, he, ho, (hO _).1, (hO _).2⟩, ((((((((B1.out.setCell (by simp) _).setCell (by simp) _).setCell (by simp) _).setCell (by simp) _).setCell (by simp) _).setCell (by simp) _).setCell (by simp) _).setCell (by simp) _).setCell (by simp) _⟩
  rw [decide_eq_true ht]
  have HAT : Hid (M.atR ss x d t now) := ⟨HR.out, ht⟩
  have hsn := M.snd_parts HR.out
  obtain ⟨-, hfi, ⟨hx0, hx1⟩, ⟨hd0, hd1⟩, ht1, ht2⟩ := hsn
  have HFI := M.hl hfi
  have HX1 := M.hl hx1
  have hn3 : n ≤ 300 := by have := (M.fits_iff.1 hfi).1; have := HN.out; omega
  obtain ⟨X, rfl⟩ := Int.eq_ofNat_of_zero_le hx0
  have hX3 : X ≤ 300 := by have := HX1.out; have := HN.out; omega
  have k0 := M.bk_cell U0.out 0 (.slice a n c) rfl
  have k1 := M.bk_cell U0.out 1 (.int .i64 (X : Int)) rfl
  have k2 := M.bk_cell U0.out 2 (.int .i64 d) rfl
  have k3 := M.bk_cell U0.out 3 (.int .i64 t) rfl
  clear hfi hx1 BAD CT
  go_wp2_with fail
  refine (CC.out _ B1.out).mono ?_
  rintro e w2 ⟨v, rfl, hO, hb⟩
  obtain ⟨a', cap', rfl⟩ := hO.len
  have O2 := M.hl hO
  have B2 := M.hl (M.sl B1.out hb)
  have V0 := M.hl ((hb.block w.heap.size (by omega)).trans U0.out)
  have V1 := M.hl ((hb.block (w.heap.size + 1) (by omega)).trans U1.out)
  have hsz2 : w.heap.size + 1 < w2.heap.size := by have := hb.size; omega
  have AL : Hid (∀ o b, b < w2.heap.size → (w2.alloc o).heap[b]? = w2.heap[b]?) := fun o b hb' => heap_alloc_old _ _ hb'
  have BA : Hid (∀ o, Below w.heap.size w (w2.alloc o)) := fun o => B2.out.alloc B2.out.size _
  have g0 : ∀ o, (w2.alloc o).cell? ⟨w.heap.size, 0, none⟩ = some (.slice a n c) := fun o => M.bk_cell ((AL.out o _ (by omega)).trans V0.out) 0 _ rfl
  have g1 : ∀ o, (w2.alloc o).cell? ⟨w.heap.size, 1, none⟩ = some (.int .i64 (X : Int)) := fun o => M.bk_cell ((AL.out o _ (by omega)).trans V0.out) 1 _ rfl
  have g2 : ∀ o, (w2.alloc o).cell? ⟨w.heap.size, 2, none⟩ = some (.int .i64 d) := fun o => M.bk_cell ((AL.out o _ (by omega)).trans V0.out) 2 _ rfl
  have g3 : ∀ o, (w2.alloc o).cell? ⟨w.heap.size, 3, none⟩ = some (.int .i64 t) := fun o => M.bk_cell ((AL.out o _ (by omega)).trans V0.out) 3 _ rfl
  have p0 : w2.cell? ⟨w.heap.size + 1, 0, none⟩ = some (.slice none 0 0) := M.bk_cell V1.out 0 _ rfl
  have p1 : w2.cell? ⟨w.heap.size + 1, 1, none⟩ = some (.int .i64 0) := M.bk_cell V1.out 1 _ rfl
  have p2 : w2.cell? ⟨w.heap.size + 1, 2, none⟩ = some (.int .i64 0) := M.bk_cell V1.out 2 _ rfl
  have p3 : w2.cell? ⟨w.heap.size + 1, 3, none⟩ = some (.int .i64 0) := M.bk_cell V1.out 3 _ rfl
  have p4 : w2.cell? ⟨w.heap.size + 1, 4, none⟩ = some (.slice none 0 0) := M.bk_cell V1.out 4 _ rfl
  have p5 : w2.cell? ⟨w.heap.size + 1, 5, none⟩ = some (.int .i64 0) := M.bk_cell V1.out 5 _ rfl
  have p6 : w2.cell? ⟨w.heap.size + 1, 6, none⟩ = some (.slice none 0 0) := M.bk_cell V1.out 6 _ rfl
  have p7 : w2.cell? ⟨w.heap.size + 1, 7, none⟩ = some (.int .i64 0) := M.bk_cell V1.out 7 _ rfl
  have p8 : w2.cell? ⟨w.heap.size + 1, 8, none⟩ = some (.int .i64 0) := M.bk_cell V1.out 8 _ rfl
  have fp : ∀ j, w2.frozen? ⟨w.heap.size + 1, j, none⟩ = false := fun j => M.bk_free V1.out j
  have hne2 : ¬ (w.heap.size + 1 = w2.heap.size) := by omega
  have OA : Hid (∀ o, M.OwnS (w2.alloc o) w1.heap.size (.slice a' ss.length cap') ss) := fun o => O2.out.below ((Below.refl _ _).alloc (Nat.le_refl _) _)
  clear hO hb k0 k1 k2 k3 r0 r1 r2 r3 r4 r5 r6 r7 r8 fr
  by_cases hidle : (X : Int) = (n : Int) ∨ now < d
  · have HID : Hid ((X : Int) = (ss.length : Int) ∨ now < d) := by show _ ∨ _; rw [← HN.out]; exact hidle
    have FIN : Hid (∀ W, M.OwnS W w1.heap.size (.slice a' ss.length cap') ss → M.AtVal ss (X : Int) d t now w.heap.size (.returned (.agg #[.slice a' ss.length cap', .int .i64 (X : Int), .int .i64 d, .int .i64 t, .slice none 0 0, .int .i64 0, .slice none 0 0, .int .i64 0, .int .i64 0])) W) := fun W hW => ⟨_, _, ss, X, d, t, [], 0, rfl, .inr (.inl ⟨HAT.out, HID.out, rfl, rfl, rfl, rfl, rfl, rfl⟩), hW.lower (by omega), M.OwnP.nil _ _⟩
    by_cases hxe : (X : Int) = (n : Int)
    · have d1 : ((X : Int) == (n : Int)) = true := by rw [beq_iff_eq]; exact hxe
      clear hxe hidle
      have RR := M.nine V1.out (.slice a' ss.length cap') (.int .i64 (X : Int)) (.int .i64 d) (.int .i64 t) (.slice none 0 0) (.int .i64 0) (.slice none 0 0) (.int .i64 0) (.int .i64 0)
      have hs9 : (((((((((w2.setCell ⟨w.heap.size + 1, 0, none⟩ (.slice a' ss.length cap')).setCell ⟨w.heap.size + 1, 1, none⟩ (.int .i64 (X : Int))).setCell ⟨w.heap.size + 1, 2, none⟩ (.int .i64 d)).setCell ⟨w.heap.size + 1, 3, none⟩ (.int .i64 t)).setCell ⟨w.heap.size + 1, 4, none⟩ (.slice none 0 0)).setCell ⟨w.heap.size + 1, 5, none⟩ (.int .i64 0)).setCell ⟨w.heap.size + 1, 6, none⟩ (.slice none 0 0)).setCell ⟨w.heap.size + 1, 7, none⟩ (.int .i64 0)).setCell ⟨w.heap.size + 1, 8, none⟩ (.int .i64 0)).heap.size = w2.heap.size := by simp [World.setCell]
      have rr0 : ∀ o, ((((((((((w2.setCell ⟨w.heap.size + 1, 0, none⟩ (.slice a' ss.length cap')).setCell ⟨w.heap.size + 1, 1, none⟩ (.int .i64 (X : Int))).setCell ⟨w.heap.size + 1, 2, none⟩ (.int .i64 d)).setCell ⟨w.heap.size + 1, 3, none⟩ (.int .i64 t)).setCell ⟨w.heap.size + 1, 4, none⟩ (.slice none 0 0)).setCell ⟨w.heap.size + 1, 5, none⟩ (.int .i64 0)).setCell ⟨w.heap.size + 1, 6, none⟩ (.slice none 0 0)).setCell ⟨w.heap.size + 1, 7, none⟩ (.int .i64 0)).setCell ⟨w.heap.size + 1, 8, none⟩ (.int .i64 0)).alloc o).cell? ⟨w.heap.size + 1, 0, none⟩ = some (.slice a' ss.length cap') := fun o => M.bk_cell ((heap_alloc_old _ _ (by rw [hs9]; omega)).trans RR) 0 _ rfl
      have rr1 : ∀ o, ((((((((((w2.setCell ⟨w.heap.size + 1, 0, none⟩ (.slice a' ss.length cap')).setCell ⟨w.heap.size + 1, 1, none⟩ (.int .i64 (X : Int))).setCell ⟨w.heap.size + 1, 2, none⟩ (.int .i64 d)).setCell ⟨w.heap.size + 1, 3, none⟩ (.int .i64 t)).setCell ⟨w.heap.size + 1, 4, none⟩ (.slice none 0 0)).setCell ⟨w.heap.size + 1, 5, none⟩ (.int .i64 0)).setCell ⟨w.heap.size + 1, 6, none⟩ (.slice none 0 0)).setCell ⟨w.heap.size + 1, 7, none⟩ (.int .i64 0)).setCell ⟨w.heap.size + 1, 8, none⟩ (.int .i64 0)).alloc o).cell? ⟨w.heap.size + 1, 1, none⟩ = some (.int .i64 (X : Int)) := fun o => M.bk_cell ((heap_alloc_old _ _ (by rw [hs9]; omega)).trans RR) 1 _ rfl
      have rr2 : ∀ o, ((((((((((w2.setCell ⟨w.heap.size + 1, 0, none⟩ (.slice a' ss.length cap')).setCell ⟨w.heap.size + 1, 1, none⟩ (.int .i64 (X : Int))).setCell ⟨w.heap.size + 1, 2, none⟩ (.int .i64 d)).setCell ⟨w.heap.size + 1, 3, none⟩ (.int .i64 t)).setCell ⟨w.heap.size + 1, 4, none⟩ (.slice none 0 0)).setCell ⟨w.heap.size + 1, 5, none⟩ (.int .i64 0)).setCell ⟨w.heap.size + 1, 6, none⟩ (.slice none 0 0)).setCell ⟨w.heap.size + 1, 7, none⟩ (.int .i64 0)).setCell ⟨w.heap.size + 1, 8, none⟩ (.int .i64 0)).alloc o).cell? ⟨w.heap.size + 1, 2, none⟩ = some (.int .i64 d) := fun o => M.bk_cell ((heap_alloc_old _ _ (by rw [hs9]; omega)).trans RR) 2 _ rfl
      have rr3 : ∀ o, ((((((((((w2.setCell ⟨w.heap.size + 1, 0, none⟩ (.slice a' ss.length cap')).setCell ⟨w.heap.size + 1, 1, none⟩ (.int .i64 (X : Int))).setCell ⟨w.heap.size + 1, 2, none⟩ (.int .i64 d)).setCell ⟨w.heap.size + 1, 3, none⟩ (.int .i64 t)).setCell ⟨w.heap.size + 1, 4, none⟩ (.slice none 0 0)).setCell ⟨w.heap.size + 1, 5, none⟩ (.int .i64 0)).setCell ⟨w.heap.size + 1, 6, none⟩ (.slice none 0 0)).setCell ⟨w.heap.size + 1, 7, none⟩ (.int .i64 0)).setCell ⟨w.heap.size + 1, 8, none⟩ (.int .i64 0)).alloc o).cell? ⟨w.heap.size + 1, 3, none⟩ = some (.int .i64 t) := fun o => M.bk_cell ((heap_alloc_old _ _ (by rw [hs9]; omega)).trans RR) 3 _ rfl
      have rr4 : ∀ o, ((((((((((w2.setCell ⟨w.heap.size + 1, 0, none⟩ (.slice a' ss.length cap')).setCell ⟨w.heap.size + 1, 1, none⟩ (.int .i64 (X : Int))).setCell ⟨w.heap.size + 1, 2, none⟩ (.int .i64 d)).setCell ⟨w.heap.size + 1, 3, none⟩ (.int .i64 t)).setCell ⟨w.heap.size + 1, 4, none⟩ (.slice none 0 0)).setCell ⟨w.heap.size + 1, 5, none⟩ (.int .i64 0)).setCell ⟨w.heap.size + 1, 6, none⟩ (.slice none 0 0)).setCell ⟨w.heap.size + 1, 7, none⟩ (.int .i64 0)).setCell ⟨w.heap.size + 1, 8, none⟩ (.int .i64 0)).alloc o).cell? ⟨w.heap.size + 1, 4, none⟩ = some (.slice none 0 0) := fun o => M.bk_cell ((heap_alloc_old _ _ (by rw [hs9]; omega)).trans RR) 4 _ rfl
      have rr5 : ∀ o, ((((((((((w2.setCell ⟨w.heap.size + 1, 0, none⟩ (.slice a' ss.length cap')).setCell ⟨w.heap.size + 1, 1, none⟩ (.int .i64 (X : Int))).setCell ⟨w.heap.size + 1, 2, none⟩ (.int .i64 d)).setCell ⟨w.heap.size + 1, 3, none⟩ (.int .i64 t)).setCell ⟨w.heap.size + 1, 4, none⟩ (.slice none 0 0)).setCell ⟨w.heap.size + 1, 5, none⟩ (.int .i64 0)).setCell ⟨w.heap.size + 1, 6, none⟩ (.slice none 0 0)).setCell ⟨w.heap.size + 1, 7, none⟩ (.int .i64 0)).setCell ⟨w.heap.size + 1, 8, none⟩ (.int .i64 0)).alloc o).cell? ⟨w.heap.size + 1, 5, none⟩ = some (.int .i64 0) := fun o => M.bk_cell ((heap_alloc_old _ _ (by rw [hs9]; omega)).trans RR) 5 _ rfl
      have rr6 : ∀ o, ((((((((((w2.setCell ⟨w.heap.size + 1, 0, none⟩ (.slice a' ss.length cap')).setCell ⟨w.heap.size + 1, 1, none⟩ (.int .i64 (X : Int))).setCell ⟨w.heap.size + 1, 2, none⟩ (.int .i64 d)).setCell ⟨w.heap.size + 1, 3, none⟩ (.int .i64 t)).setCell ⟨w.heap.size + 1, 4, none⟩ (.slice none 0 0)).setCell ⟨w.heap.size + 1, 5, none⟩ (.int .i64 0)).setCell ⟨w.heap.size + 1, 6, none⟩ (.slice none 0 0)).setCell ⟨w.heap.size + 1, 7, none⟩ (.int .i64 0)).setCell ⟨w.heap.size + 1, 8, none⟩ (.int .i64 0)).alloc o).cell? ⟨w.heap.size + 1, 6, none⟩ = some (.slice none 0 0) := fun o => M.bk_cell ((heap_alloc_old _ _ (by rw [hs9]; omega)).trans RR) 6 _ rfl
      have rr7 : ∀ o, ((((((((((w2.setCell ⟨w.heap.size + 1, 0, none⟩ (.slice a' ss.length cap')).setCell ⟨w.heap.size + 1, 1, none⟩ (.int .i64 (X : Int))).setCell ⟨w.heap.size + 1, 2, none⟩ (.int .i64 d)).setCell ⟨w.heap.size + 1, 3, none⟩ (.int .i64 t)).setCell ⟨w.heap.size + 1, 4, none⟩ (.slice none 0 0)).setCell ⟨w.heap.size + 1, 5, none⟩ (.int .i64 0)).setCell ⟨w.heap.size + 1, 6, none⟩ (.slice none 0 0)).setCell ⟨w.heap.size + 1, 7, none⟩ (.int .i64 0)).setCell ⟨w.heap.size + 1, 8, none⟩ (.int .i64 0)).alloc o).cell? ⟨w.heap.size + 1, 7, none⟩ = some (.int .i64 0) := fun o => M.bk_cell ((heap_alloc_old _ _ (by rw [hs9]; omega)).trans RR) 7 _ rfl
      have rr8 : ∀ o, ((((((((((w2.setCell ⟨w.heap.size + 1, 0, none⟩ (.slice a' ss.length cap')).setCell ⟨w.heap.size + 1, 1, none⟩ (.int .i64 (X : Int))).setCell ⟨w.heap.size + 1, 2, none⟩ (.int .i64 d)).setCell ⟨w.heap.size + 1, 3, none⟩ (.int .i64 t)).setCell ⟨w.heap.size + 1, 4, none⟩ (.slice none 0 0)).setCell ⟨w.heap.size + 1, 5, none⟩ (.int .i64 0)).setCell ⟨w.heap.size + 1, 6, none⟩ (.slice none 0 0)).setCell ⟨w.heap.size + 1, 7, none⟩ (.int .i64 0)).setCell ⟨w.heap.size + 1, 8, none⟩ (.int .i64 0)).alloc o).cell? ⟨w.heap.size + 1, 8, none⟩ = some (.int .i64 0) := fun o => M.bk_cell ((heap_alloc_old _ _ (by rw [hs9]; omega)).trans RR) 8 _ rfl
      clear RR hs9
      go_wp2
      refine bodyPost_ret (v := .agg #[.slice a' ss.length cap', .int .i64 (X : Int), .int .i64 d, .int .i64 t, .slice none 0 0, .int .i64 0, .slice none 0 0, .int .i64 0, .int .i64 0]) (by simp [results, Try.results15, go_sem, rr0, rr1, rr2, rr3, rr4, rr5, rr6, rr7, rr8]) rfl ?_
      refine ⟨FIN.out _ ?_, ?_⟩
      · exact M.OwnS.below (((((((((O2.out.setLow (by omega) _ _).setLow (by omega) _ _).setLow (by omega) _ _).setLow (by omega) _ _).setLow (by omega) _ _).setLow (by omega) _ _).setLow (by omega) _ _).setLow (by omega) _ _).setLow (by omega) _ _) (M.all2 _)
      · refine M.sl ?_ (M.all2 _)
        exact ((((((((B2.out.setCell (by simp) _).setCell (by simp) _).setCell (by simp) _).setCell (by simp) _).setCell (by simp) _).setCell (by simp) _).setCell (by simp) _).setCell (by simp) _).setCell (by simp) _
    · have d1 : ((X : Int) == (n : Int)) = false := by rw [beq_eq_false_iff_ne]; exact hxe
      have d2 : decide (now < d) = true := decide_eq_true (by omega)
      clear hxe hidle
      have RR := M.nine V1.out (.slice a' ss.length cap') (.int .i64 (X : Int)) (.int .i64 d) (.int .i64 t) (.slice none 0 0) (.int .i64 0) (.slice none 0 0) (.int .i64 0) (.int .i64 0)
      have hs9 : (((((((((w2.setCell ⟨w.heap.size + 1, 0, none⟩ (.slice a' ss.length cap')).setCell ⟨w.heap.size + 1, 1, none⟩ (.int .i64 (X : Int))).setCell ⟨w.heap.size + 1, 2, none⟩ (.int .i64 d)).setCell ⟨w.heap.size + 1, 3, none⟩ (.int .i64 t)).setCell ⟨w.heap.size + 1, 4, none⟩ (.slice none 0 0)).setCell ⟨w.heap.size + 1, 5, none⟩ (.int .i64 0)).setCell ⟨w.heap.size + 1, 6, none⟩ (.slice none 0 0)).setCell ⟨w.heap.size + 1, 7, none⟩ (.int .i64 0)).setCell ⟨w.heap.size + 1, 8, none⟩ (.int .i64 0)).heap.size = w2.heap.size := by simp [World.setCell]
      have rr0 : ∀ o, ((((((((((w2.setCell ⟨w.heap.size + 1, 0, none⟩ (.slice a' ss.length cap')).setCell ⟨w.heap.size + 1, 1, none⟩ (.int .i64 (X : Int))).setCell ⟨w.heap.size + 1, 2, none⟩ (.int .i64 d)).setCell ⟨w.heap.size + 1, 3, none⟩ (.int .i64 t)).setCell ⟨w.heap.size + 1, 4, none⟩ (.slice none 0 0)).setCell ⟨w.heap.size + 1, 5, none⟩ (.int .i64 0)).setCell ⟨w.heap.size + 1, 6, none⟩ (.slice none 0 0)).setCell ⟨w.heap.size + 1, 7, none⟩ (.int .i64 0)).setCell ⟨w.heap.size + 1, 8, none⟩ (.int .i64 0)).alloc o).cell? ⟨w.heap.size + 1, 0, none⟩ = some (.slice a' ss.length cap') := fun o => M.bk_cell ((heap_alloc_old _ _ (by rw [hs9]; omega)).trans RR) 0 _ rfl
      have rr1 : ∀ o, ((((((((((w2.setCell ⟨w.heap.size + 1, 0, none⟩ (.slice a' ss.length cap')).setCell ⟨w.heap.size + 1, 1, none⟩ (.int .i64 (X : Int))).setCell ⟨w.heap.size + 1, 2, none⟩ (.int .i64 d)).setCell ⟨w.heap.size + 1, 3, none⟩ (.int .i64 t)).setCell ⟨w.heap.size + 1, 4, none⟩ (.slice none 0 0)).setCell ⟨w.heap.size + 1, 5, none⟩ (.int .i64 0)).setCell ⟨w.heap.size + 1, 6, none⟩ (.slice none 0 0)).setCell ⟨w.heap.size + 1, 7, none⟩ (.int .i64 0)).setCell ⟨w.heap.size + 1, 8, none⟩ (.int .i64 0)).alloc o).cell? ⟨w.heap.size + 1, 1, none⟩ = some (.int .i64 (X : Int)) := fun o => M.bk_cell ((heap_alloc_old _ _ (by rw [hs9]; omega)).trans RR) 1 _ rfl
      have rr2 : ∀ o, ((((((((((w2.setCell ⟨w.heap.size + 1, 0, none⟩ (.slice a' ss.length cap')).setCell ⟨w.heap.size + 1, 1, none⟩ (.int .i64 (X : Int))).setCell ⟨w.heap.size + 1, 2, none⟩ (.int .i64 d)).setCell ⟨w.heap.size + 1, 3, none⟩ (.int .i64 t)).setCell ⟨w.heap.size + 1, 4, none⟩ (.slice none 0 0)).setCell ⟨w.heap.size + 1, 5, none⟩ (.int .i64 0)).setCell ⟨w.heap.size + 1, 6, none⟩ (.slice none 0 0)).setCell ⟨w.heap.size + 1, 7, none⟩ (.int .i64 0)).setCell ⟨w.heap.size + 1, 8, none⟩ (.int .i64 0)).alloc o).cell? ⟨w.heap.size + 1, 2, none⟩ = some (.int .i64 d) := fun o => M.bk_cell ((heap_alloc_old _ _ (by rw [hs9]; omega)).trans RR) 2 _ rfl
      have rr3 : ∀ o, ((((((((((w2.setCell ⟨w.heap.size + 1, 0, none⟩ (.slice a' ss.length cap')).setCell ⟨w.heap.size + 1, 1, none⟩ (.int .i64 (X : Int))).setCell ⟨w.heap.size + 1, 2, none⟩ (.int .i64 d)).setCell ⟨w.heap.size + 1, 3, none⟩ (.int .i64 t)).setCell ⟨w.heap.size + 1, 4, none⟩ (.slice none 0 0)).setCell ⟨w.heap.size + 1, 5, none⟩ (.int .i64 0)).setCell ⟨w.heap.size + 1, 6, none⟩ (.slice none 0 0)).setCell ⟨w.heap.size + 1, 7, none⟩ (.int .i64 0)).setCell ⟨w.heap.size + 1, 8, none⟩ (.int .i64 0)).alloc o).cell? ⟨w.heap.size + 1, 3, none⟩ = some (.int .i64 t) := fun o => M.bk_cell ((heap_alloc_old _ _ (by rw [hs9]; omega)).trans RR) 3 _ rfl
      have rr4 : ∀ o, ((((((((((w2.setCell ⟨w.heap.size + 1, 0, none⟩ (.slice a' ss.length cap')).setCell ⟨w.heap.size + 1, 1, none⟩ (.int .i64 (X : Int))).setCell ⟨w.heap.size + 1, 2, none⟩ (.int .i64 d)).setCell ⟨w.heap.size + 1, 3, none⟩ (.int .i64 t)).setCell ⟨w.heap.size + 1, 4, none⟩ (.slice none 0 0)).setCell ⟨w.heap.size + 1, 5, none⟩ (.int .i64 0)).setCell ⟨w.heap.size + 1, 6, none⟩ (.slice none 0 0)).setCell ⟨w.heap.size + 1, 7, none⟩ (.int .i64 0)).setCell ⟨w.heap.size + 1, 8, none⟩ (.int .i64 0)).alloc o).cell? ⟨w.heap.size + 1, 4, none⟩ = some (.slice none 0 0) := fun o => M.bk_cell ((heap_alloc_old _ _ (by rw [hs9]; omega)).trans RR) 4 _ rfl
      have rr5 : ∀ o, ((((((((((w2.setCell ⟨w.heap.size + 1, 0, none⟩ (.slice a' ss.length cap')).setCell ⟨w.heap.size + 1, 1, none⟩ (.int .i64 (X : Int))).setCell ⟨w.heap.size + 1, 2, none⟩ (.int .i64 d)).setCell ⟨w.heap.size + 1, 3, none⟩ (.int .i64 t)).setCell ⟨w.heap.size + 1, 4, none⟩ (.slice none 0 0)).setCell ⟨w.heap.size + 1, 5, none⟩ (.int .i64 0)).setCell ⟨w.heap.size + 1, 6, none⟩ (.slice none 0 0)).setCell ⟨w.heap.size + 1, 7, none⟩ (.int .i64 0)).setCell ⟨w.heap.size + 1, 8, none⟩ (.int .i64 0)).alloc o).cell? ⟨w.heap.size + 1, 5, none⟩ = some (.int .i64 0) := fun o => M.bk_cell ((heap_alloc_old _ _ (by rw [hs9]; omega)).trans RR) 5 _ rfl
      have rr6 : ∀ o, ((((((((((w2.setCell ⟨w.heap.size + 1, 0, none⟩ (.slice a' ss.length cap')).setCell ⟨w.heap.size + 1, 1, none⟩ (.int .i64 (X : Int))).setCell ⟨w.heap.size + 1, 2, none⟩ (.int .i64 d)).setCell ⟨w.heap.size + 1, 3, none⟩ (.int .i64 t)).setCell ⟨w.heap.size + 1, 4, none⟩ (.slice none 0 0)).setCell ⟨w.heap.size + 1, 5, none⟩ (.int .i64 0)).setCell ⟨w.heap.size + 1, 6, none⟩ (.slice none 0 0)).setCell ⟨w.heap.size + 1, 7, none⟩ (.int .i64 0)).setCell ⟨w.heap.size + 1, 8, none⟩ (.int .i64 0)).alloc o).cell? ⟨w.heap.size + 1, 6, none⟩ = some (.slice none 0 0) := fun o => M.bk_cell ((heap_alloc_old _ _ (by rw [hs9]; omega)).trans RR) 6 _ rfl
      have rr7 : ∀ o, ((((((((((w2.setCell ⟨w.heap.size + 1, 0, none⟩ (.slice a' ss.length cap')).setCell ⟨w.heap.size + 1, 1, none⟩ (.int .i64 (X : Int))).setCell ⟨w.heap.size + 1, 2, none⟩ (.int .i64 d)).setCell ⟨w.heap.size + 1, 3, none⟩ (.int .i64 t)).setCell ⟨w.heap.size + 1, 4, none⟩ (.slice none 0 0)).setCell ⟨w.heap.size + 1, 5, none⟩ (.int .i64 0)).setCell ⟨w.heap.size + 1, 6, none⟩ (.slice none 0 0)).setCell ⟨w.heap.size + 1, 7, none⟩ (.int .i64 0)).setCell ⟨w.heap.size + 1, 8, none⟩ (.int .i64 0)).alloc o).cell? ⟨w.heap.size + 1, 7, none⟩ = some (.int .i64 0) := fun o => M.bk_cell ((heap_alloc_old _ _ (by rw [hs9]; omega)).trans RR) 7 _ rfl
      have rr8 : ∀ o, ((((((((((w2.setCell ⟨w.heap.size + 1, 0, none⟩ (.slice a' ss.length cap')).setCell ⟨w.heap.size + 1, 1, none⟩ (.int .i64 (X : Int))).setCell ⟨w.heap.size + 1, 2, none⟩ (.int .i64 d)).setCell ⟨w.heap.size + 1, 3, none⟩ (.int .i64 t)).setCell ⟨w.heap.size + 1, 4, none⟩ (.slice none 0 0)).setCell ⟨w.heap.size + 1, 5, none⟩ (.int .i64 0)).setCell ⟨w.heap.size + 1, 6, none⟩ (.slice none 0 0)).setCell ⟨w.heap.size + 1, 7, none⟩ (.int .i64 0)).setCell ⟨w.heap.size + 1, 8, none⟩ (.int .i64 0)).alloc o).cell? ⟨w.heap.size + 1, 8, none⟩ = some (.int .i64 0) := fun o => M.bk_cell ((heap_alloc_old _ _ (by rw [hs9]; omega)).trans RR) 8 _ rfl
      clear RR hs9
      go_wp2
      refine bodyPost_ret (v := .agg #[.slice a' ss.length cap', .int .i64 (X : Int), .int .i64 d, .int .i64 t, .slice none 0 0, .int .i64 0, .slice none 0 0, .int .i64 0, .int .i64 0]) (by simp [results, Try.results15, go_sem, rr0, rr1, rr2, rr3, rr4, rr5, rr6, rr7, rr8]) rfl ?_
      refine ⟨FIN.out _ ?_, ?_⟩
      · exact M.OwnS.below (((((((((O2.out.setLow (by omega) _ _).setLow (by omega) _ _).setLow (by omega) _ _).setLow (by omega) _ _).setLow (by omega) _ _).setLow (by omega) _ _).setLow (by omega) _ _).setLow (by omega) _ _).setLow (by omega) _ _) (M.all2 _)
      · refine M.sl ?_ (M.all2 _)
        exact ((((((((B2.out.setCell (by simp) _).setCell (by simp) _).setCell (by simp) _).setCell (by simp) _).setCell (by simp) _).setCell (by simp) _).setCell (by simp) _).setCell (by simp) _).setCell (by simp) _
  · have d1 : ((X : Int) == (n : Int)) = false := by rw [beq_eq_false_iff_ne]; intro e; exact hidle (.inl e)
    have d2 : decide (now < d) = false := decide_eq_false (fun e => hidle (.inr e))
    have HXn : X < n := by have := HX1.out; have := HN.out; omega
    have e1 : IntKind.i64.wrap (now + t) = now + t := by rw [IntKind.wrap_i64]; omega
    have e2 : IntKind.i64.wrap (2 * t) = 2 * t := by rw [IntKind.wrap_i64]; omega
    obtain ⟨m, hm⟩ : ∃ m, m = min (X + 4) n - X := ⟨_, rfl⟩
    have HMM := M.hl hm
    have hm4 : m ≤ 4 := by omega
    have hxm : X + m ≤ n := by omega
    have CW : Hid (∀ W, Below w.heap.size w W → Calls Try.prog 48 #[.agg #[.slice a n c, .int .i64 (X : Int), .int .i64 d, .int .i64 t]] W fun e w' => ∃ b, e = .returned (.map (some b)) ∧ w'.ownsMap Try.prog 2 M.pktElem b m (M.wdat ss X m) ∧ Below W.heap.size W w') := fun W hW => by
      rw [HMM.out]; exact iWin_any W a n c X ss d t (HS.out.below hW) HFI.out HXn
    have CI : Hid (∀ W b, W.ownsMap Try.prog 2 M.pktElem b m (M.wdat ss X m) → Calls Try.prog 47 #[.map (some b), .int .i64 (X : Int)] W fun e w' => ∃ v, e = .returned v ∧ M.OwnP w' W.heap.size v (M.winL ss X m) ∧ Below W.heap.size W w') := fun W b hW => iRowP_any W b X m ss hW HFI.out hm4 (by have := HN.out; omega)
    have HNI : Hid (¬ ((X : Int) = (ss.length : Int) ∨ now < d)) := by show ¬ _; rw [← HN.out]; exact hidle
    clear hm hidle
    go_wp2_with fail
    generalize hW3 : w2.alloc (.cells #[.slice a' ss.length cap', .int .i64 (X : Int), .int .i64 (now + t), .int .i64 (min (2 * t) 64)] 27) = W3
    have B3 : Hid (Below w.heap.size w W3) := by rw [← hW3]; exact BA.out _
    have E0 : Hid (W3.heap[w.heap.size]? = some (.cells #[.slice a n c, .int .i64 (X : Int), .int .i64 d, .int .i64 t] 27 (0, 0))) := by rw [← hW3]; exact (AL.out _ _ (by omega)).trans V0.out
    have E1 : Hid (W3.heap[w.heap.size + 1]? = some (.cells #[.slice none 0 0, .int .i64 0, .int .i64 0, .int .i64 0, .slice none 0 0, .int .i64 0, .slice none 0 0, .int .i64 0, .int .i64 0] 35 (0, 0))) := by rw [← hW3]; exact (AL.out _ _ (by omega)).trans V1.out
    have E2 : Hid (W3.heap[w2.heap.size]? = some (.cells #[.slice a' ss.length cap', .int .i64 (X : Int), .int .i64 (now + t), .int .i64 (min (2 * t) 64)] 27 (0, 0))) := by rw [← hW3]; exact heap_alloc_new _ _
    have O3 : Hid (M.OwnS W3 w1.heap.size (.slice a' ss.length cap') ss) := by rw [← hW3]; exact OA.out _
    have D3 : Hid (Below W3.heap.size W3 W3.drew) := (Below.refl _ _).drew
    have hz0 : w.heap.size < W3.heap.size := (Array.getElem?_eq_some_iff.1 E0.out).1
    have hz1 : w.heap.size + 1 < W3.heap.size := (Array.getElem?_eq_some_iff.1 E1.out).1
    have hz2 : w2.heap.size < W3.heap.size := (Array.getElem?_eq_some_iff.1 E2.out).1
    clear hW3 g0 g1 g2 g3 p0 p1 p2 p3 p4 p5 p6 p7 p8 fp
    have ak0 := M.bk_cell E0.out 0 (.slice a n c) rfl
    have ak1 := M.bk_cell E0.out 1 (.int .i64 (X : Int)) rfl
    have ak2 := M.bk_cell E0.out 2 (.int .i64 d) rfl
    have ak3 := M.bk_cell E0.out 3 (.int .i64 t) rfl
    have as0 := M.bk_cell E2.out 0 (.slice a' ss.length cap') rfl
    have as1 := M.bk_cell E2.out 1 (.int .i64 (X : Int)) rfl
    have as2 := M.bk_cell E2.out 2 (.int .i64 (now + t)) rfl
    have as3 := M.bk_cell E2.out 3 (.int .i64 (min (2 * t) 64)) rfl
    have ar0 := M.bk_cell E1.out 0 (.slice none 0 0) rfl
    have ar1 := M.bk_cell E1.out 1 (.int .i64 0) rfl
    have ar2 := M.bk_cell E1.out 2 (.int .i64 0) rfl
    have ar3 := M.bk_cell E1.out 3 (.int .i64 0) rfl
    have ar4 := M.bk_cell E1.out 4 (.slice none 0 0) rfl
    have ar5 := M.bk_cell E1.out 5 (.int .i64 0) rfl
    have ar6 := M.bk_cell E1.out 6 (.slice none 0 0) rfl
    have ar7 := M.bk_cell E1.out 7 (.int .i64 0) rfl
    have ar8 := M.bk_cell E1.out 8 (.int .i64 0) rfl
    have afr := M.bk_free E1.out
    go_region_with (first | (go_at_call 48; refine (CW.out _ (M.sl B3.out D3.out)).mono ?_; rintro e w4 ⟨b4, rfl, hown, hb4⟩; have B34 := M.hl (M.sl D3.out hb4); have MO := M.hl hown; have bk0 := M.bk_cell ((B34.out.block w.heap.size hz0).trans E0.out) 0 (.slice a n c) rfl; have bk1 := M.bk_cell ((B34.out.block w.heap.size hz0).trans E0.out) 1 (.int .i64 (X : Int)) rfl; have bk2 := M.bk_cell ((B34.out.block w.heap.size hz0).trans E0.out) 2 (.int .i64 d) rfl; have bk3 := M.bk_cell ((B34.out.block w.heap.size hz0).trans E0.out) 3 (.int .i64 t) rfl; have bs0 := M.bk_cell ((B34.out.block w2.heap.size hz2).trans E2.out) 0 (.slice a' ss.length cap') rfl; have bs1 := M.bk_cell ((B34.out.block w2.heap.size hz2).trans E2.out) 1 (.int .i64 (X : Int)) rfl; have bs2 := M.bk_cell ((B34.out.block w2.heap.size hz2).trans E2.out) 2 (.int .i64 (now + t)) rfl; have bs3 := M.bk_cell ((B34.out.block w2.heap.size hz2).trans E2.out) 3 (.int .i64 (min (2 * t) 64)) rfl; have br0 := M.bk_cell ((B34.out.block (w.heap.size + 1) hz1).trans E1.out) 0 (.slice none 0 0) rfl; have br1 := M.bk_cell ((B34.out.block (w.heap.size + 1) hz1).trans E1.out) 1 (.int .i64 0) rfl; have br2 := M.bk_cell ((B34.out.block (w.heap.size + 1) hz1).trans E1.out) 2 (.int .i64 0) rfl; have br3 := M.bk_cell ((B34.out.block (w.heap.size + 1) hz1).trans E1.out) 3 (.int .i64 0) rfl; have br4 := M.bk_cell ((B34.out.block (w.heap.size + 1) hz1).trans E1.out) 4 (.slice none 0 0) rfl; have br5 := M.bk_cell ((B34.out.block (w.heap.size + 1) hz1).trans E1.out) 5 (.int .i64 0) rfl; have br6 := M.bk_cell ((B34.out.block (w.heap.size + 1) hz1).trans E1.out) 6 (.slice none 0 0) rfl; have br7 := M.bk_cell ((B34.out.block (w.heap.size + 1) hz1).trans E1.out) 7 (.int .i64 0) rfl; have br8 := M.bk_cell ((B34.out.block (w.heap.size + 1) hz1).trans E1.out) 8 (.int .i64 0) rfl; have bfr := M.bk_free ((B34.out.block (w.heap.size + 1) hz1).trans E1.out); clear hown hb4) | (go_at_call 47; refine (CI.out _ b4 MO.out).mono ?_; rintro e w5 ⟨pv, rfl, hP, hb5⟩; obtain ⟨ap, cp, rfl⟩ := hP.len; have P5 := M.hl hP; have B35 := M.hl (M.sl B34.out hb5); have ck0 := M.bk_cell ((B35.out.block w.heap.size hz0).trans E0.out) 0 (.slice a n c) rfl; have ck1 := M.bk_cell ((B35.out.block w.heap.size hz0).trans E0.out) 1 (.int .i64 (X : Int)) rfl; have ck2 := M.bk_cell ((B35.out.block w.heap.size hz0).trans E0.out) 2 (.int .i64 d) rfl; have ck3 := M.bk_cell ((B35.out.block w.heap.size hz0).trans E0.out) 3 (.int .i64 t) rfl; have cs0 := M.bk_cell ((B35.out.block w2.heap.size hz2).trans E2.out) 0 (.slice a' ss.length cap') rfl; have cs1 := M.bk_cell ((B35.out.block w2.heap.size hz2).trans E2.out) 1 (.int .i64 (X : Int)) rfl; have cs2 := M.bk_cell ((B35.out.block w2.heap.size hz2).trans E2.out) 2 (.int .i64 (now + t)) rfl; have cs3 := M.bk_cell ((B35.out.block w2.heap.size hz2).trans E2.out) 3 (.int .i64 (min (2 * t) 64)) rfl; have cr0 := M.bk_cell ((B35.out.block (w.heap.size + 1) hz1).trans E1.out) 0 (.slice none 0 0) rfl; have cr1 := M.bk_cell ((B35.out.block (w.heap.size + 1) hz1).trans E1.out) 1 (.int .i64 0) rfl; have cr2 := M.bk_cell ((B35.out.block (w.heap.size + 1) hz1).trans E1.out) 2 (.int .i64 0) rfl; have cr3 := M.bk_cell ((B35.out.block (w.heap.size + 1) hz1).trans E1.out) 3 (.int .i64 0) rfl; have cr4 := M.bk_cell ((B35.out.block (w.heap.size + 1) hz1).trans E1.out) 4 (.slice none 0 0) rfl; have cr5 := M.bk_cell ((B35.out.block (w.heap.size + 1) hz1).trans E1.out) 5 (.int .i64 0) rfl; have cr6 := M.bk_cell ((B35.out.block (w.heap.size + 1) hz1).trans E1.out) 6 (.slice none 0 0) rfl; have cr7 := M.bk_cell ((B35.out.block (w.heap.size + 1) hz1).trans E1.out) 7 (.int .i64 0) rfl; have cr8 := M.bk_cell ((B35.out.block (w.heap.size + 1) hz1).trans E1.out) 8 (.int .i64 0) rfl; have cfr := M.bk_free ((B35.out.block (w.heap.size + 1) hz1).trans E1.out); have hz4 : W3.heap.size ≤ w4.heap.size := B34.out.size; clear hP hb5))
    all_goals
      go_wp2
      refine bodyPost_ret (v := .agg #[.slice a' ss.length cap', .int .i64 (X : Int), .int .i64 (now + t), .int .i64 (min (2 * t) 64), .slice none 0 0, .int .i64 0, .slice ap (M.winL ss X m).length cp, .int .i64 0, .int .i64 0]) (by simp [results, Try.results15, go_sem, cr0, cr1, cr2, cr3, cr4, cr5, cr6, cr7, cr8]) rfl ?_
      refine ⟨⟨_, _, ss, X, now + t, min (2 * t) 64, M.winL ss X m, 0, rfl, .inr (.inr ⟨HAT.out, HNI.out, rfl, rfl, rfl, rfl, ?_, rfl⟩), ?_, ?_⟩, ?_⟩
      · rw [Int.toNat_natCast, ← HN.out, ← HMM.out]
      · exact M.OwnS.lower ((((((((((O3.out.below B35.out).setLow (by omega) _ _).setLow (by omega) _ _).setLow (by omega) _ _).setLow (by omega) _ _).setLow (by omega) _ _).setLow (by omega) _ _).setLow (by omega) _ _).setLow (by omega) _ _).setLow (by omega) _ _) (by omega)
      · exact M.OwnP.lower (((((((((P5.out.setLow (by omega) _ _).setLow (by omega) _ _).setLow (by omega) _ _).setLow (by omega) _ _).setLow (by omega) _ _).setLow (by omega) _ _).setLow (by omega) _ _).setLow (by omega) _ _).setLow (by omega) _ _) (by omega)
      · exact (((((((((M.sl B3.out B35.out).setCell (by simp) _).setCell (by simp) _).setCell (by simp) _).setCell (by simp) _).setCell (by simp) _).setCell (by simp) _).setCell (by simp) _).setCell (by simp) _).setCell (by simp) _
end Go.Proofs.Ytafenhodfoflbab
