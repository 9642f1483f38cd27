/-
  What the laws' helpers on what SendAt tells do: eqLinkOut, markLinkOut, heldLinkOut.
-/
import Derived.Test.YtafenhodfoflbabSendEq
import Derived.Test.YtafenhodfoflbabLinkSW
import Derived.Test.YtafenhodfoflbabSendMarks
import Derived.Test.YtafenhodfoflbabPktMarks
namespace Go.Proofs.Ytafenhodfoflbab
open Go.RowKit

set_option maxRecDepth 100000 in
set_option maxHeartbeats 3200000 in
theorem eqLink_same (w : World) (a a' p p' : Option Addr) (n c n' c' m d m' d' : Nat) (ss : List ByteArray) (ps : List M.PktD) (y0 y1 y2 code : Int) (h : M.Strs w a n c ss) (h' : M.Strs w a' n' c' ss) (k : M.Pkts w p m d ps) (k' : M.Pkts w p' m' d' ps) :
    Calls Try.prog 16 #[.agg #[.slice a n c, .int .i64 y0, .int .i64 y1, .int .i64 y2, .slice none 0 0, .int .i64 0, .slice p m d, .int .i64 0, .int .i64 code], .agg #[.slice a' n' c', .int .i64 y0, .int .i64 y1, .int .i64 y2, .slice none 0 0, .int .i64 0, .slice p' m' d', .int .i64 0, .int .i64 code]] w fun e w' => e = .returned (.bool true) ∧ Below w.heap.size w w' := by
  have HB : Hid (∀ o1 o2, Below w.heap.size w ((w.alloc o1).alloc o2)) := fun o1 o2 => ((Below.refl _ _).alloc (Nat.le_refl _) _).alloc (by simp) _
  have CS : Hid (∀ W, Below w.heap.size w W → Calls Try.prog 13 #[.agg #[.slice a n c, .int .i64 y0, .int .i64 y1, .int .i64 y2], .agg #[.slice a' n' c', .int .i64 y0, .int .i64 y1, .int .i64 y2]] W fun e w' => e = .returned (.bool true) ∧ Below W.heap.size W w') := fun W hW => eqSend_same W a a' n c n' c' ss y0 y1 y2 (h.below hW) (h'.below hW)
  have CR : Hid (∀ W, Calls Try.prog 27 #[.agg #[.slice none 0 0, .int .i64 0], .agg #[.slice none 0 0, .int .i64 0]] W fun e w' => e = .returned (.bool true) ∧ Below W.heap.size W w') := fun W => eqRecv_same W none none 0 0 0 0 [] 0 (M.Strs.nil _) (M.Strs.nil _)
  have CP : Hid (∀ W, Below w.heap.size w W → Calls Try.prog 49 #[.slice p m d, .slice p' m' d'] W fun e w' => e = .returned (.bool true) ∧ Below W.heap.size W w') := fun W hW => eqPktS_same W p p' m d m' d' ps (k.below hW) (k'.below hW)
  clear h h' k k'
  go_enter Try.func16, Try.ntmps16
  go_wp2_with fail
  refine (CS.out _ (HB.out _ _)).mono ?_
  rintro e w1 ⟨rfl, hb⟩
  obtain ⟨t0, t1⟩ := M.thr2 w (.cells #[.slice a n c, .int .i64 y0, .int .i64 y1, .int .i64 y2, .slice none 0 0, .int .i64 0, .slice p m d, .int .i64 0, .int .i64 code] 35) (.cells #[.slice a' n' c', .int .i64 y0, .int .i64 y1, .int .i64 y2, .slice none 0 0, .int .i64 0, .slice p' m' d', .int .i64 0, .int .i64 code] 35)
  have U0 := M.hl ((hb.block w.heap.size (by simp; omega)).trans t0)
  have U1 := M.hl ((hb.block (w.heap.size + 1) (by simp)).trans t1)
  have B1 := M.hl (M.sl (HB.out _ _) hb)
  clear hb t0 t1
  have x4 := M.bk_cell U0.out 4 (.slice none 0 0) rfl
  have x5 := M.bk_cell U0.out 5 (.int .i64 0) rfl
  have z4 := M.bk_cell U1.out 4 (.slice none 0 0) rfl
  have z5 := M.bk_cell U1.out 5 (.int .i64 0) rfl
  go_wp2_with fail
  refine (CR.out _).mono ?_
  rintro e w2 ⟨rfl, hb⟩
  have V0 := M.hl ((hb.block w.heap.size (Array.getElem?_eq_some_iff.1 U0.out).1).trans U0.out)
  have V1 := M.hl ((hb.block (w.heap.size + 1) (Array.getElem?_eq_some_iff.1 U1.out).1).trans U1.out)
  have B2 := M.hl (M.sl B1.out hb)
  clear hb x4 x5 z4 z5
  have x6 := M.bk_cell V0.out 6 (.slice p m d) rfl
  have z6 := M.bk_cell V1.out 6 (.slice p' m' d') rfl
  go_wp2_with fail
  refine (CP.out _ B2.out).mono ?_
  rintro e w3 ⟨rfl, hb⟩
  have X0 := M.hl ((hb.block w.heap.size (Array.getElem?_eq_some_iff.1 V0.out).1).trans V0.out)
  have X1 := M.hl ((hb.block (w.heap.size + 1) (Array.getElem?_eq_some_iff.1 V1.out).1).trans V1.out)
  have B3 := M.hl (M.sl B2.out hb)
  clear hb x6 z6
  have x7 := M.bk_cell X0.out 7 (.int .i64 0) rfl
  have x8 := M.bk_cell X0.out 8 (.int .i64 code) rfl
  have z7 := M.bk_cell X1.out 7 (.int .i64 0) rfl
  have z8 := M.bk_cell X1.out 8 (.int .i64 code) rfl
  go_wp2
  go_ret
  exact ⟨rfl, B3.out⟩

set_option maxRecDepth 100000 in
set_option maxHeartbeats 800000 in
theorem markRecv_nil (w : World) (k : Nat) :
    Calls Try.prog 32 #[.agg #[.slice none 0 0, .int .i64 0], .int .i64 (k : Int)] w fun e w' => e = .returned (.int .i64 (k : Int)) ∧ Below w.heap.size w w' := by
  have CM : Hid (∀ W, Calls Try.prog 50 #[.slice none 0 0, .int .i64 (k : Int)] W fun e w' => e = .returned (.int .i64 (k : Int)) ∧ W = w') := fun W => by
    go_enter Try.func50, Try.ntmps50
    go_wp2
    go_loopw [1, 5] (fun x y wr => x = .int .i64 (k : Int) ∧ y = .int .i64 0 ∧ W = wr) (fun _ _ _ => 0)
    case atStart => exact ⟨rfl, rfl, rfl⟩
    case round =>
      obtain ⟨rfl, rfl, rfl⟩ := hrel
      go_wp2
      go_ret
      exact ⟨rfl, rfl⟩
  have HB : Hid (∀ o, Below w.heap.size w (w.alloc o)) := fun o => (Below.refl _ _).alloc (Nat.le_refl _) _
  go_enter Try.func32, Try.ntmps32
  go_wp2_with fail
  refine (CM.out _).mono ?_
  rintro e w1 ⟨rfl, rfl⟩
  go_wp2
  go_ret
  exact ⟨rfl, HB.out _⟩

set_option maxRecDepth 100000 in
set_option maxHeartbeats 800000 in
theorem heldRecv_nil (w : World) (k : Nat) (hk : k ≤ 3000000) :
    Calls Try.prog 52 #[.agg #[.slice none 0 0, .int .i64 0], .int .i64 (k : Int)] w fun e w' => e = .returned (.int .i64 (k : Int)) ∧ Below w.heap.size w w' := by
  have CM : Hid (∀ W, Calls Try.prog 54 #[.slice none 0 0, .int .i64 (k : Int)] W fun e w' => e = .returned (.int .i64 (k : Int)) ∧ W = w') := fun W => by
    go_enter Try.func54, Try.ntmps54
    go_wp2
    go_loopw [1, 5] (fun x y wr => x = .int .i64 (k : Int) ∧ y = .int .i64 0 ∧ W = wr) (fun _ _ _ => 0)
    case atStart => exact ⟨rfl, rfl, rfl⟩
    case round =>
      obtain ⟨rfl, rfl, rfl⟩ := hrel
      go_wp2
      go_ret
      exact ⟨rfl, rfl⟩
  have HB : Hid (∀ o, Below w.heap.size w (w.alloc o)) := fun o => (Below.refl _ _).alloc (Nat.le_refl _) _
  have d0 : decide ((k : Int) < 0) = false := decide_eq_false (by omega)
  go_enter Try.func52, Try.ntmps52
  go_wp2_with fail
  refine (CM.out _).mono ?_
  rintro e w1 ⟨rfl, rfl⟩
  go_wp2
  go_ret
  exact ⟨rfl, HB.out _⟩

/-- Rows of texts and of packets never lie in one block. -/
theorem M.rowsSP {W : World} {b1 b2 : Nat} {v1 v2 : Value} {ss : List ByteArray} {ps : List M.PktD} (h1 : M.OwnS W b1 v1 ss) (h2 : M.OwnP W b2 v2 ps) : ∀ j, v1.ownBlock = some j → v2.ownBlock = some j → False := by
  obtain ⟨-, ⟨rfl, -⟩ | ⟨g, cap, cur, rfl, -, hh, -⟩⟩ := h1
  · intro j hj; cases hj
  · obtain ⟨-, ⟨rfl, -⟩ | ⟨g', cap', cur', rfl, -, hh', -⟩⟩ := h2
    · intro j _ e; cases e
    · intro j hj e
      cases hj
      cases e
      rw [hh] at hh'
      have := Option.some.inj hh'
      simp at this
/-- What is changed lies in the two rows, or is new. -/
def M.Eff (v pv : Value) (w w' : World) : Prop := (∀ (a : World), (∀ j, v.ownBlock = some j → a.heap.size ≤ j) → (∀ j, pv.ownBlock = some j → a.heap.size ≤ j) → Below a.heap.size a w → Below a.heap.size a w') ∧ ∀ h, h < w.heap.size → v.ownBlock ≠ some h → pv.ownBlock ≠ some h → w'.heap[h]? = w.heap[h]?

set_option maxRecDepth 100000 in
set_option maxHeartbeats 3200000 in
theorem markLink_own (w : World) (base : Nat) (v pv : Value) (ss : List ByteArray) (ps : List M.PktD) (y0 y1 y2 code : Int) (h : M.OwnS w base v ss) (k : M.OwnP w base pv ps) (hl : ss.length ≤ 1048576) (hl2 : ps.length ≤ 4) :
    Calls Try.prog 18 #[.agg #[v, .int .i64 y0, .int .i64 y1, .int .i64 y2, .slice none 0 0, .int .i64 0, pv, .int .i64 0, .int .i64 code], .int .i64 1] w fun e w' => e = .returned (.int .i64 ((1 + ss.length + 4 * ps.length : Nat) : Int)) ∧ M.OwnS w' base v (M.mts ss.length 1) ∧ M.OwnP w' base pv (M.pmarks ps.length (1 + ss.length)) ∧ M.Eff v pv w w' := by
  have AP := M.hl (M.rowsSP h k)
  have LS := M.hl (World.ownsRow.lt h)
  have LP := M.hl (World.ownsRow.lt k)
  have HB : Hid (∀ o, Below w.heap.size w (w.alloc o)) := fun o => (Below.refl _ _).alloc (Nat.le_refl _) _
  have HS := M.hl h
  have HP := M.hl k
  obtain ⟨a, c, rfl⟩ := h.len
  obtain ⟨p, d, rfl⟩ := k.len
  obtain ⟨N, hN⟩ : ∃ N, N = 1 + ss.length := ⟨_, rfl⟩
  obtain ⟨N4, hN4⟩ : ∃ N4, N4 = N + 4 * ps.length := ⟨_, rfl⟩
  have hb1 : N ≤ 2000000 := by omega
  have hb4 : N4 ≤ 3000000 := by omega
  have CS : Hid (∀ o, Calls Try.prog 17 #[.agg #[.slice a ss.length c, .int .i64 y0, .int .i64 y1, .int .i64 y2], .int .i64 1] (w.alloc o) fun e w' => e = .returned (.int .i64 (N : Int)) ∧ M.OwnS w' base (.slice a ss.length c) (M.mts ss.length 1) ∧ (w.alloc o).grownBy w' (Value.slice a ss.length c).ownBlock) := fun o => by
    rw [hN]; exact markSend_own (w.alloc o) base _ ss y0 y1 y2 (HS.out.below (HB.out o)) hl
  have CR := M.hl (fun W => markRecv_nil W N)
  have CP : Hid (∀ W, M.OwnP W base (.slice p ps.length d) ps → Calls Try.prog 51 #[.slice p ps.length d, .int .i64 (N : Int)] W fun e w' => e = .returned (.int .i64 (N4 : Int)) ∧ M.OwnP w' base (.slice p ps.length d) (M.pmarks ps.length N) ∧ W.grownBy w' (Value.slice p ps.length d).ownBlock) := fun W hW => by
    rw [hN4]; exact markPktS_own W base _ ps N hW hl2 (by omega) (by omega)
  rw [← hN, ← hN4]
  clear h k hN hN4
  go_enter Try.func18, Try.ntmps18
  go_wp2_with fail
  refine (CS.out _).mono ?_
  rintro e w1 ⟨rfl, hO, hg⟩
  have O1 := M.hl hO
  have G1 := M.hl hg
  have U0 := M.hl ((hg.block w.heap.size (by simp) (fun e => by have := (LS.out _ e.symm).2; omega)).trans (heap_alloc_new _ _))
  have P1 := M.hl ((HP.out.below (HB.out _)).grown hg (fun j hj e => AP.out j e.symm hj))
  clear hO hg
  have x4 := M.bk_cell U0.out 4 (.slice none 0 0) rfl
  have x5 := M.bk_cell U0.out 5 (.int .i64 0) rfl
  go_wp2_with fail
  refine (CR.out _).mono ?_
  rintro e w2 ⟨rfl, hb⟩
  have O2 := M.hl (O1.out.below hb)
  have P2 := M.hl (P1.out.below hb)
  have B12 := M.hl hb
  have V0 := M.hl ((hb.block w.heap.size (Array.getElem?_eq_some_iff.1 U0.out).1).trans U0.out)
  clear hb x4 x5
  have x6 := M.bk_cell V0.out 6 (.slice p ps.length d) rfl
  go_wp2_with fail
  refine (CP.out _ P2.out).mono ?_
  rintro e w3 ⟨rfl, hO, hg⟩
  have P3 := M.hl hO
  have G3 := M.hl hg
  have O3 := M.hl (O2.out.grw hg (fun j hj e => AP.out j hj e.symm))
  have EF : Hid (M.Eff (.slice a ss.length c) (.slice p ps.length d) w w3) := ⟨fun a' h1 h2 hB => by
      have b1 := hB.alloc hB.size (.cells #[.slice a ss.length c, .int .i64 y0, .int .i64 y1, .int .i64 y2, .slice none 0 0, .int .i64 0, .slice p ps.length d, .int .i64 0, .int .i64 code] 35)
      have b2 := b1.grown G1.out b1.size h1
      have b3 := b2.trans (B12.out.mono b2.size)
      exact b3.grown G3.out b3.size h2, fun h hh h1 h2 => by
      rw [G3.out.block h (by have := B12.out.size; have := G1.out.size; simp at this; omega) (fun e => h2 e.symm), B12.out.block h (by have := G1.out.size; simp at this; omega), G1.out.block h (by simp; omega) (fun e => h1 e.symm), heap_alloc_old _ _ hh]⟩
  clear hO hg x6
  go_wp2
  go_ret
  exact ⟨rfl, O3.out, P3.out, EF.out⟩

set_option maxRecDepth 100000 in
set_option maxHeartbeats 3200000 in
theorem heldLink_own (w : World) (base : Nat) (v pv : Value) (n m : Nat) (y0 y1 y2 code : Int) (h : M.OwnS w base v (M.mts n 1)) (k : M.OwnP w base pv (M.pmarks m (1 + n))) (hl : n ≤ 1048576) (hl2 : m ≤ 4) :
    Calls Try.prog 19 #[.agg #[v, .int .i64 y0, .int .i64 y1, .int .i64 y2, .slice none 0 0, .int .i64 0, pv, .int .i64 0, .int .i64 code], .int .i64 1] w fun e w' => e = .returned (.int .i64 ((1 + n + 4 * m : Nat) : Int)) ∧ Below w.heap.size w w' := by
  have HB : Hid (∀ o, Below w.heap.size w (w.alloc o)) := fun o => (Below.refl _ _).alloc (Nat.le_refl _) _
  have HS := M.hl h
  have HP := M.hl k
  obtain ⟨a, c, rfl⟩ := h.len
  obtain ⟨p, d, rfl⟩ := k.len
  obtain ⟨N, hN⟩ : ∃ N, N = 1 + n := ⟨_, rfl⟩
  obtain ⟨N4, hN4⟩ : ∃ N4, N4 = N + 4 * m := ⟨_, rfl⟩
  have hb1 : N ≤ 2000000 := by omega
  have hb4 : N4 ≤ 3000000 := by omega
  generalize hq1 : (M.mts n 1).length = q1 at *
  generalize hq2 : (M.pmarks m (1 + n)).length = q2 at *
  have CS : Hid (∀ o, Calls Try.prog 22 #[.agg #[.slice a q1 c, .int .i64 y0, .int .i64 y1, .int .i64 y2], .int .i64 1] (w.alloc o) fun e w' => e = .returned (.int .i64 (N : Int)) ∧ Below (w.alloc o).heap.size (w.alloc o) w') := fun o => by
    rw [hN]; exact heldSend_own (w.alloc o) base _ n y0 y1 y2 (HS.out.below (HB.out o)) hl
  have CR := M.hl (fun W => heldRecv_nil W N (by omega))
  have CP : Hid (∀ W, Below w.heap.size w W → Calls Try.prog 53 #[.slice p q2 d, .int .i64 (N : Int)] W fun e w' => e = .returned (.int .i64 (N4 : Int)) ∧ Below W.heap.size W w') := fun W hW => by
    rw [hN4, hN]; exact heldPktS_own W base _ m (1 + n) (HP.out.below hW) hl2 (by omega) (by omega)
  rw [← hN, ← hN4]
  have dN : decide ((N : Int) < 0) = false := decide_eq_false (by omega)
  have dN4 : decide ((N4 : Int) < 0) = false := decide_eq_false (by omega)
  clear h k hN hN4 hq1 hq2 HS HP
  go_enter Try.func19, Try.ntmps19
  go_wp2_with fail
  refine (CS.out _).mono ?_
  rintro e w1 ⟨rfl, hb⟩
  have B1 := M.hl hb
  have x4 := M.bxd hb 4 (.slice none 0 0) rfl
  have x5 := M.bxd hb 5 (.int .i64 0) rfl
  clear hb
  go_wp2_with fail
  refine (CR.out _).mono ?_
  rintro e w2 ⟨rfl, hb⟩
  have B2 := M.hl (M.sl B1.out hb)
  have x6 := M.bxd B2.out 6 (.slice p q2 d) rfl
  clear hb x4 x5
  go_wp2_with fail
  refine (CP.out _ (M.bxd_below B2.out)).mono ?_
  rintro e w3 ⟨rfl, hb⟩
  have B3 := M.hl (M.bxd_below (M.sl B2.out hb))
  clear hb x6
  go_wp2
  go_ret
  exact ⟨rfl, B3.out⟩
end Go.Proofs.Ytafenhodfoflbab
