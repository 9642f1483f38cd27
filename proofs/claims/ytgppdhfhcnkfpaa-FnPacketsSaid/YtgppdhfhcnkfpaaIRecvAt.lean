/-
  What ReceiveAt of the program does with a right receiver and a right packet.
-/
import Derived.Test.YtgppdhfhcnkfpaaITaken
import Derived.Test.YtgppdhfhcnkfpaaPart4
import Derived.Test.YtgppdhfhcnkfpaaIPktR
import Derived.Deep.RegionWith
import Derived.Deep.RegionHeldLaw
namespace Go.Proofs.Ytgppdhfhcnkfpaa
open Go.RowKit

/-- What a right receiver has got behind a right packet, what it wants then, and the code. -/
def M.recv (ss : List ByteArray) (x q : Int) (l : Bool) (s : ByteArray) : List ByteArray × Int × Int :=
  if x = q then (if l = true ∨ s.size = 64 then (ss ++ [s], if l = true then -1 else x + 1, 0) else (ss, x, 3)) else (ss, x, 0)

theorem M.set1c {W : World} {B b i j : Nat} {v : Value} (h : B ≠ b) : (W.setCell ⟨B, i, none⟩ v).cell? ⟨b, j, none⟩ = W.cell? ⟨b, j, none⟩ := World.cell?_setCell_other _ _ _ _ (by intro e; simp only [Addr.mk.injEq] at e; omega)
theorem M.set9c {W : World} {B b j : Nat} {v0 v1 v2 v3 v4 v5 v6 v7 v8 : Value} (h : B ≠ b) : (((((((((W.setCell ⟨B, 0, none⟩ v0).setCell ⟨B, 1, none⟩ v1).setCell ⟨B, 2, none⟩ v2).setCell ⟨B, 3, none⟩ v3).setCell ⟨B, 4, none⟩ v4).setCell ⟨B, 5, none⟩ v5).setCell ⟨B, 6, none⟩ v6).setCell ⟨B, 7, none⟩ v7).setCell ⟨B, 8, none⟩ v8).cell? ⟨b, j, none⟩ = W.cell? ⟨b, j, none⟩ := by
  rw [M.set1c h, M.set1c h, M.set1c h, M.set1c h, M.set1c h, M.set1c h, M.set1c h, M.set1c h, M.set1c h]
theorem M.set1h {W : World} {B i : Nat} {T : TypeId} {v : Value} {arr : Array Value} (h : W.heap[B]? = some (.cells arr T (0, 0))) : (W.setCell ⟨B, i, none⟩ v).heap[B]? = some (.cells (arr.setIfInBounds i v) T (0, 0)) := by
  simp only [World.setCell, Array.getElem?_modify, if_true, h]
  rfl
theorem M.set9h {W : World} {B : Nat} {T : TypeId} {v0 v1 v2 v3 v4 v5 v6 v7 v8 u0 u1 u2 u3 u4 u5 u6 u7 u8 : Value} (h : W.heap[B]? = some (.cells #[u0, u1, u2, u3, u4, u5, u6, u7, u8] T (0, 0))) : (((((((((W.setCell ⟨B, 0, none⟩ v0).setCell ⟨B, 1, none⟩ v1).setCell ⟨B, 2, none⟩ v2).setCell ⟨B, 3, none⟩ v3).setCell ⟨B, 4, none⟩ v4).setCell ⟨B, 5, none⟩ v5).setCell ⟨B, 6, none⟩ v6).setCell ⟨B, 7, none⟩ v7).setCell ⟨B, 8, none⟩ v8).heap[B]? = some (.cells #[v0, v1, v2, v3, v4, v5, v6, v7, v8] T (0, 0)) := by
  have h0 : (W.setCell ⟨B, 0, none⟩ v0).heap[B]? = some (.cells #[v0, u1, u2, u3, u4, u5, u6, u7, u8] T (0, 0)) := M.set1h (i := 0) (v := v0) h
  have h1 : ((W.setCell ⟨B, 0, none⟩ v0).setCell ⟨B, 1, none⟩ v1).heap[B]? = some (.cells #[v0, v1, u2, u3, u4, u5, u6, u7, u8] T (0, 0)) := M.set1h (i := 1) (v := v1) h0
  have h2 : (((W.setCell ⟨B, 0, none⟩ v0).setCell ⟨B, 1, none⟩ v1).setCell ⟨B, 2, none⟩ v2).heap[B]? = some (.cells #[v0, v1, v2, u3, u4, u5, u6, u7, u8] T (0, 0)) := M.set1h (i := 2) (v := v2) h1
  have h3 : ((((W.setCell ⟨B, 0, none⟩ v0).setCell ⟨B, 1, none⟩ v1).setCell ⟨B, 2, none⟩ v2).setCell ⟨B, 3, none⟩ v3).heap[B]? = some (.cells #[v0, v1, v2, v3, u4, u5, u6, u7, u8] T (0, 0)) := M.set1h (i := 3) (v := v3) h2
  have h4 : (((((W.setCell ⟨B, 0, none⟩ v0).setCell ⟨B, 1, none⟩ v1).setCell ⟨B, 2, none⟩ v2).setCell ⟨B, 3, none⟩ v3).setCell ⟨B, 4, none⟩ v4).heap[B]? = some (.cells #[v0, v1, v2, v3, v4, u5, u6, u7, u8] T (0, 0)) := M.set1h (i := 4) (v := v4) h3
  have h5 : ((((((W.setCell ⟨B, 0, none⟩ v0).setCell ⟨B, 1, none⟩ v1).setCell ⟨B, 2, none⟩ v2).setCell ⟨B, 3, none⟩ v3).setCell ⟨B, 4, none⟩ v4).setCell ⟨B, 5, none⟩ v5).heap[B]? = some (.cells #[v0, v1, v2, v3, v4, v5, u6, u7, u8] T (0, 0)) := M.set1h (i := 5) (v := v5) h4
  have h6 : (((((((W.setCell ⟨B, 0, none⟩ v0).setCell ⟨B, 1, none⟩ v1).setCell ⟨B, 2, none⟩ v2).setCell ⟨B, 3, none⟩ v3).setCell ⟨B, 4, none⟩ v4).setCell ⟨B, 5, none⟩ v5).setCell ⟨B, 6, none⟩ v6).heap[B]? = some (.cells #[v0, v1, v2, v3, v4, v5, v6, u7, u8] T (0, 0)) := M.set1h (i := 6) (v := v6) h5
  have h7 : ((((((((W.setCell ⟨B, 0, none⟩ v0).setCell ⟨B, 1, none⟩ v1).setCell ⟨B, 2, none⟩ v2).setCell ⟨B, 3, none⟩ v3).setCell ⟨B, 4, none⟩ v4).setCell ⟨B, 5, none⟩ v5).setCell ⟨B, 6, none⟩ v6).setCell ⟨B, 7, none⟩ v7).heap[B]? = some (.cells #[v0, v1, v2, v3, v4, v5, v6, v7, u8] T (0, 0)) := M.set1h (i := 7) (v := v7) h6
  have h8 : (((((((((W.setCell ⟨B, 0, none⟩ v0).setCell ⟨B, 1, none⟩ v1).setCell ⟨B, 2, none⟩ v2).setCell ⟨B, 3, none⟩ v3).setCell ⟨B, 4, none⟩ v4).setCell ⟨B, 5, none⟩ v5).setCell ⟨B, 6, none⟩ v6).setCell ⟨B, 7, none⟩ v7).setCell ⟨B, 8, none⟩ v8).heap[B]? = some (.cells #[v0, v1, v2, v3, v4, v5, v6, v7, v8] T (0, 0)) := M.set1h (i := 8) (v := v8) h7
  exact h8
theorem M.stB {lo H : Nat} {a b : World} (h : Below lo a b) (hH : lo ≤ H) (j : Nat) (v : Value) : Below lo a (b.setCell ⟨H, j, none⟩ v) := h.setCell hH v
theorem M.set9o {W : World} {B b : Nat} {v0 v1 v2 v3 v4 v5 v6 v7 v8 : Value} (h : B ≠ b) : (((((((((W.setCell ⟨B, 0, none⟩ v0).setCell ⟨B, 1, none⟩ v1).setCell ⟨B, 2, none⟩ v2).setCell ⟨B, 3, none⟩ v3).setCell ⟨B, 4, none⟩ v4).setCell ⟨B, 5, none⟩ v5).setCell ⟨B, 6, none⟩ v6).setCell ⟨B, 7, none⟩ v7).setCell ⟨B, 8, none⟩ v8).heap[b]? = W.heap[b]? := by
  rw [M.setfr h, M.setfr h, M.setfr h, M.setfr h, M.setfr h, M.setfr h, M.setfr h, M.setfr h, M.setfr h]

set_option maxRecDepth 100000 in
set_option maxHeartbeats 6400000 in
theorem iRecvAt_any (w : World) (a : Option Addr) (n c : Nat) (ss : List ByteArray) (x q : Int) (l : Bool) (s : ByteArray) (y : Int) (h : M.Strs w a n c ss) (hr : M.rcvR ss x = true) (hp : M.pktR q l s y = true) :
    Calls Try.prog 15 #[.agg #[.slice a n c, .int .i64 x], .agg #[.int .i64 q, .bool l, .string s, .int .i64 y]] w fun e w' => ∃ v, e = .returned (.agg #[.slice none 0 0, .int .i64 0, .int .i64 0, .int .i64 0, v, .int .i64 (M.recv ss x q l s).2.1, .slice none 0 0, .int .i64 ((M.recv ss x q l s).1.length : Int), .int .i64 (M.recv ss x q l s).2.2]) ∧ M.OwnS w' w.heap.size v (M.recv ss x q l s).1 ∧ Below w.heap.size w w' := by
  have hfit := M.rcvR_iff.1 hr
  have hn3 : n ≤ 300 := by have := hfit.1; have := h.1; omega
  have HN : Hid (n = ss.length) := h.1
  have h64 : ∀ t ∈ ss, t.size ≤ 64 := fun t ht => by
    obtain ⟨i, hi⟩ := List.getElem?_of_mem ht
    exact (hfit.2.2 i t hi).1
  have hxb : -1 ≤ x ∧ x ≤ 300 := by have := hfit.1; have := hfit.2.1; omega
  have hpp : (0 ≤ q ∧ q ≤ 299) ∧ s.size ≤ 64 := by
    unfold M.pktR at hp
    rw [Bool.and_eq_true, Bool.and_eq_true] at hp
    exact ⟨of_decide_eq_true hp.1.1, of_decide_eq_true hp.1.2⟩
  obtain ⟨⟨hq0, hq1⟩, hs64⟩ := hpp
  have B3 : Hid (∀ o1 o2 o3, Below w.heap.size w (((w.alloc o1).alloc o2).alloc o3)) := fun o1 o2 o3 => (((Below.refl _ _).alloc (Nat.le_refl _) _).alloc (by simp) _).alloc (by simp; omega) _
  have CR : Hid (∀ W, Below w.heap.size w W → Calls Try.prog 28 #[.agg #[.slice a n c, .int .i64 x]] W fun e w' => e = .returned (.bool true) ∧ Below W.heap.size W w') := fun W hW => by
    rw [← hr]; exact iRecvR_any W a n c ss x (h.below hW) (fun t ht => by have := h64 t ht; unfold maxLen; omega)
  have CP : Hid (∀ W, Calls Try.prog 13 #[.agg #[.int .i64 q, .bool l, .string s, .int .i64 y]] W fun e w' => e = .returned (.bool true) ∧ Below W.heap.size W w') := fun W => by
    rw [← hp]; exact iPktR_any q l s y W (by omega) (by omega) (by omega)
  have CC : Hid (∀ W, Below w.heap.size w W → Calls Try.prog 53 #[.slice a n c] W fun e w' => ∃ v, e = .returned v ∧ M.OwnS w' W.heap.size v ss ∧ Below W.heap.size W w') := fun W hW => iCopyT_any W a n c ss (h.below hW) (fun t ht => by have := h64 t ht; omega) (by omega)
  clear h hr hp hfit h64
  obtain ⟨x0, x1⟩ := hxb
  go_enter Try.func15, Try.ntmps15
  go_wp2_with fail
  refine (CR.out _ (B3.out _ _ _)).mono ?_
  rintro e w1 ⟨rfl, hb⟩
  obtain ⟨t0, t1, t2⟩ := M.thr3 w (.cells #[.slice a n c, .int .i64 x] 27) (.cells #[.int .i64 q, .bool l, .string s, .int .i64 y] 29) (.cells #[.slice none 0 0, .int .i64 0, .int .i64 0, .int .i64 0, .slice none 0 0, .int .i64 0, .slice none 0 0, .int .i64 0, .int .i64 0] 36)
  have U0 := M.hl ((hb.block w.heap.size (by simp; omega)).trans t0)
  have U1 := M.hl ((hb.block (w.heap.size + 1) (by simp)).trans t1)
  have U2 := M.hl ((hb.block (w.heap.size + 1 + 1) (by simp)).trans t2)
  have B1 := M.hl (M.sl (B3.out _ _ _) hb)
  clear hb t0 t1 t2
  have p0 := M.bk_cell U1.out 0 _ rfl
  have p1 := M.bk_cell U1.out 1 _ rfl
  have p2 := M.bk_cell U1.out 2 _ rfl
  have p3 := M.bk_cell U1.out 3 _ rfl
  go_wp2_with fail
  refine (CP.out _).mono ?_
  rintro e w2 ⟨rfl, hb⟩
  have hz1 : w.heap.size + 1 + 1 < w1.heap.size := (Array.getElem?_eq_some_iff.1 U2.out).1
  have V0 := M.hl ((hb.block w.heap.size (by omega)).trans U0.out)
  have V1 := M.hl ((hb.block (w.heap.size + 1) (by omega)).trans U1.out)
  have V2 := M.hl ((hb.block (w.heap.size + 1 + 1) (by omega)).trans U2.out)
  have B2 := M.hl (M.sl B1.out hb)
  have hz2 : w.heap.size + 1 + 1 < w2.heap.size := (Array.getElem?_eq_some_iff.1 V2.out).1
  have D2 : Hid (Below w2.heap.size w2 w2.drew) := (Below.refl _ _).drew
  clear hb U0 U1 U2 p0 p1 p2 p3 hz1
  have k0 := M.bk_cell V0.out 0 (.slice a n c) rfl
  have k1 := M.bk_cell V0.out 1 (.int .i64 x) rfl
  go_wp2_with fail
  have WX : Hid (∀ o, Below w.heap.size w ((w2.alloc o).drew)) := fun o => ((B2.out.alloc B2.out.size o).trans (Below.refl _ _).drew)
  have WL : Hid (∀ o, w.heap.size < ((w2.alloc o).drew).heap.size) := fun o => by show w.heap.size < (w2.alloc o).heap.size; simp; omega
  have WV : Hid (∀ o, ((w2.alloc o).drew).heap[w.heap.size]? = some (.cells #[.slice a n c, .int .i64 x] 27 (0, 0))) := fun o => (heap_alloc_old _ _ (by omega)).trans V0.out
  have HNE : Hid (w2.heap.size ≠ w.heap.size) := by show _ ≠ _; omega
  have WB : Hid (((w2.alloc (.cells #[.slice none 0 0, .int .i64 0, .int .i64 0, .int .i64 0, .slice none 0 0, .int .i64 0, .slice none 0 0, .int .i64 0, .int .i64 0] 36)).drew).heap[w2.heap.size]? = some (.cells #[.slice none 0 0, .int .i64 0, .int .i64 0, .int .i64 0, .slice none 0 0, .int .i64 0, .slice none 0 0, .int .i64 0, .int .i64 0] 36 (0, 0))) := heap_alloc_new _ _
  have WZ : Hid (∀ o, w2.heap.size < ((w2.alloc o).drew).heap.size) := fun o => by show w2.heap.size < (w2.alloc o).heap.size; simp
  go_region_held_law (fun w' => w'.cell? ⟨w.heap.size, 0, none⟩ = some (.slice a n c) ∧ w'.cell? ⟨w.heap.size, 1, none⟩ = some (.int .i64 x)) (first | (with_reducible exact ⟨m0, m1⟩) | (with_reducible exact ⟨(M.set9c HNE.out).trans m0, (M.set9c HNE.out).trans m1⟩) | go_keep) (first | (go_at_call 53; refine (CC.out _ (M.sl B2.out D2.out)).mono ?_; rintro e w4 ⟨v, rfl, hO, hb4⟩; have B24 := M.hl hb4; have O4 := M.hl hO; obtain ⟨va, vc, rfl⟩ := hO.lenN HN.out.symm; have m0 : w4.cell? ⟨w.heap.size, 0, none⟩ = some (.slice a n c) := M.bk_cell ((hb4.block w.heap.size (show w.heap.size < w2.heap.size by omega)).trans (V0.out)) 0 _ rfl; have m1 : w4.cell? ⟨w.heap.size, 1, none⟩ = some (.int .i64 x) := M.bk_cell ((hb4.block w.heap.size (show w.heap.size < w2.heap.size by omega)).trans (V0.out)) 1 _ rfl; clear hO hb4) | (go_at_call 53; refine (CC.out _ (WX.out _)).mono ?_; rintro e w4 ⟨v, rfl, hO, hb4⟩; have B24 := M.hl hb4; have O4 := M.hl hO; obtain ⟨va, vc, rfl⟩ := hO.lenN HN.out.symm; have m0 : w4.cell? ⟨w.heap.size, 0, none⟩ = some (.slice a n c) := M.bk_cell ((hb4.block w.heap.size (WL.out _)).trans (WV.out _)) 0 _ rfl; have m1 : w4.cell? ⟨w.heap.size, 1, none⟩ = some (.int .i64 x) := M.bk_cell ((hb4.block w.heap.size (WL.out _)).trans (WV.out _)) 1 _ rfl; have zb : w4.heap[w2.heap.size]? = some (.cells #[.slice none 0 0, .int .i64 0, .int .i64 0, .int .i64 0, .slice none 0 0, .int .i64 0, .slice none 0 0, .int .i64 0, .int .i64 0] 36 (0, 0)) := (hb4.block w2.heap.size (WZ.out _)).trans WB.out; have z0 := M.bk_cell zb 0 (.slice none 0 0) rfl; have z1 := M.bk_cell zb 1 (.int .i64 0) rfl; have z2 := M.bk_cell zb 2 (.int .i64 0) rfl; have z3 := M.bk_cell zb 3 (.int .i64 0) rfl; have z4 := M.bk_cell zb 4 (.slice none 0 0) rfl; have z5 := M.bk_cell zb 5 (.int .i64 0) rfl; have z6 := M.bk_cell zb 6 (.slice none 0 0) rfl; have z7 := M.bk_cell zb 7 (.int .i64 0) rfl; have z8 := M.bk_cell zb 8 (.int .i64 0) rfl; have fz := M.bk_free zb; have ZB := M.hl zb; clear zb; clear hO hb4))
  · skip
    have hz4 : w2.heap.size ≤ w4.heap.size := B24.out.size
    obtain ⟨W5, hW5⟩ : ∃ W5, W5 = w4.alloc (.cells #[.slice none 0 0, .int .i64 0, .int .i64 0, .int .i64 0, .slice va n vc, .int .i64 x, .slice none 0 0, .int .i64 0, .int .i64 0] 36) := ⟨_, rfl⟩
    obtain ⟨BX, hBX⟩ : ∃ BX, BX = w4.heap.size := ⟨_, rfl⟩
    have AL : Hid (∀ b, b < w2.heap.size → W5.heap[b]? = w2.heap[b]?) := fun b hb' => by rw [hW5]; exact (heap_alloc_old _ _ (by omega)).trans (B24.out.block b hb')
    have E3 : Hid (W5.heap[BX]? = some (.cells #[.slice none 0 0, .int .i64 0, .int .i64 0, .int .i64 0, .slice va n vc, .int .i64 x, .slice none 0 0, .int .i64 0, .int .i64 0] 36 (0, 0))) := by rw [hW5, hBX]; exact heap_alloc_new _ _
    have O5 : Hid (M.OwnS W5 w2.heap.size (.slice va n vc) ss) := by rw [hW5]; exact (O4.out.lower (Nat.le_refl _)).below ((Below.refl _ _).alloc (Nat.le_refl _) _)
    have B5 : Hid (Below w.heap.size w W5) := by rw [hW5]; exact (M.sl B2.out (M.sl D2.out B24.out)).alloc (M.sl B2.out (M.sl D2.out B24.out)).size _
    rw [← hW5, ← hBX]
    have hBX2 : w2.heap.size ≤ BX := by omega
    clear hW5 hBX B24 O4 k0 k1 m0 m1
    have E0 : Hid (W5.heap[w.heap.size]? = some (.cells #[.slice a n c, .int .i64 x] 27 (0, 0))) := (AL.out _ (by omega)).trans V0.out
    have E1 : Hid (W5.heap[w.heap.size + 1]? = some (.cells #[.int .i64 q, .bool l, .string s, .int .i64 y] 29 (0, 0))) := (AL.out _ (by omega)).trans V1.out
    have E2 : Hid (W5.heap[w.heap.size + 1 + 1]? = some (.cells #[.slice none 0 0, .int .i64 0, .int .i64 0, .int .i64 0, .slice none 0 0, .int .i64 0, .slice none 0 0, .int .i64 0, .int .i64 0] 36 (0, 0))) := (AL.out _ (by omega)).trans V2.out
    clear AL
    have k0 := M.bk_cell E0.out 0 (.slice a n c) rfl
    have k1 := M.bk_cell E0.out 1 (.int .i64 x) rfl
    have p0 := M.bk_cell E1.out 0 (.int .i64 q) rfl
    have p1 := M.bk_cell E1.out 1 (.bool l) rfl
    have p2 := M.bk_cell E1.out 2 (.string s) rfl
    have p3 := M.bk_cell E1.out 3 (.int .i64 y) rfl
    have r0 := M.bk_cell E2.out 0 (.slice none 0 0) rfl
    have r1 := M.bk_cell E2.out 1 (.int .i64 0) rfl
    have r2 := M.bk_cell E2.out 2 (.int .i64 0) rfl
    have r3 := M.bk_cell E2.out 3 (.int .i64 0) rfl
    have r4 := M.bk_cell E2.out 4 (.slice none 0 0) rfl
    have r5 := M.bk_cell E2.out 5 (.int .i64 0) rfl
    have r6 := M.bk_cell E2.out 6 (.slice none 0 0) rfl
    have r7 := M.bk_cell E2.out 7 (.int .i64 0) rfl
    have r8 := M.bk_cell E2.out 8 (.int .i64 0) rfl
    have m0 := M.bk_cell E3.out 0 (.slice none 0 0) rfl
    have m1 := M.bk_cell E3.out 1 (.int .i64 0) rfl
    have m2 := M.bk_cell E3.out 2 (.int .i64 0) rfl
    have m3 := M.bk_cell E3.out 3 (.int .i64 0) rfl
    have m4 := M.bk_cell E3.out 4 (.slice va n vc) rfl
    have m5 := M.bk_cell E3.out 5 (.int .i64 x) rfl
    have m6 := M.bk_cell E3.out 6 (.slice none 0 0) rfl
    have m7 := M.bk_cell E3.out 7 (.int .i64 0) rfl
    have m8 := M.bk_cell E3.out 8 (.int .i64 0) rfl
    have fr := M.bk_free E2.out
    have fm := M.bk_free E3.out
    have hne1 : ¬ (w.heap.size + 1 + 1 = BX) := by omega
    have hne0 : ¬ (w.heap.size = BX) := by omega
    have hneP : ¬ (w.heap.size + 1 = BX) := by omega
    have hne1' : ¬ (BX = w.heap.size + 1 + 1) := by omega
    have hne0' : ¬ (BX = w.heap.size) := by omega
    have hneP' : ¬ (BX = w.heap.size + 1) := by omega
    have N3 := M.hl (O5.out.notIn E3.out (by decide))
    have N2 := M.hl (O5.out.notIn E2.out (by decide))
    have HBX := M.hl hBX2
    have HZ2 := M.hl hz2
    by_cases hxq : x = q
    case neg =>
      have HE : Hid (M.recv ss x q l s = (ss, x, 0)) := by show _ = _; unfold M.recv; rw [if_neg hxq]
      have d1 : ((x : Int) == q) = false := by rw [beq_eq_false_iff_ne]; exact hxq
      clear hxq
      go_wp2
      refine bodyPost_ret (v := .agg #[.slice none 0 0, .int .i64 0, .int .i64 0, .int .i64 0, .slice va n vc, .int .i64 x, .slice none 0 0, .int .i64 (n : Int), .int .i64 0]) (by simp [results, Try.results15, go_sem, r0, r1, r2, r3, r4, r5, r6, r7, r8]) rfl ?_
      rw [HE.out]
      refine ⟨.slice va n vc, by simp only [← HN.out], ?_, ?_⟩
      · exact M.OwnS.lower (base := w2.heap.size) ((((((((((O5.out.setN N3.out _ _).setN N2.out _ _).setN N2.out _ _).setN N2.out _ _).setN N2.out _ _).setN N2.out _ _).setN N2.out _ _).setN N2.out _ _).setN N2.out _ _).setN N2.out _ _) (by have := HZ2.out; omega)
      · exact (M.stB (M.stB (M.stB (M.stB (M.stB (M.stB (M.stB (M.stB (M.stB (M.stB B5.out (by omega) _ _) (by omega) _ _) (by omega) _ _) (by omega) _ _) (by omega) _ _) (by omega) _ _) (by omega) _ _) (by omega) _ _) (by omega) _ _) (by omega) _ _)
    subst hxq
    have d1 : ((x : Int) == x) = true := by simp
    by_cases hls : l = true ∨ s.size = 64
    case neg =>
      have HE : Hid (M.recv ss x x l s = (ss, x, 3)) := by show _ = _; unfold M.recv; rw [if_pos rfl, if_neg hls]
      have hl0 : l = false := by cases l; rfl; exact absurd (.inl rfl) hls
      subst hl0
      have d2 : ((s.size : Int) == 64) = false := by rw [beq_eq_false_iff_ne]; intro e; exact hls (.inr (by omega))
      clear hls
      go_wp2
      refine bodyPost_ret (v := .agg #[.slice none 0 0, .int .i64 0, .int .i64 0, .int .i64 0, .slice va n vc, .int .i64 x, .slice none 0 0, .int .i64 (n : Int), .int .i64 3]) (by simp [results, Try.results15, go_sem, r0, r1, r2, r3, r4, r5, r6, r7, r8]) rfl ?_
      rw [HE.out]
      refine ⟨.slice va n vc, by simp only [← HN.out], ?_, ?_⟩
      · exact M.OwnS.lower (base := w2.heap.size) (((((((((((O5.out.setN N3.out _ _).setN N3.out _ _).setN N2.out _ _).setN N2.out _ _).setN N2.out _ _).setN N2.out _ _).setN N2.out _ _).setN N2.out _ _).setN N2.out _ _).setN N2.out _ _).setN N2.out _ _) (by have := HZ2.out; omega)
      · exact (M.stB (M.stB (M.stB (M.stB (M.stB (M.stB (M.stB (M.stB (M.stB (M.stB (M.stB B5.out (by omega) _ _) (by omega) _ _) (by omega) _ _) (by omega) _ _) (by omega) _ _) (by omega) _ _) (by omega) _ _) (by omega) _ _) (by omega) _ _) (by omega) _ _) (by omega) _ _)
    have HE : Hid (M.recv ss x x l s = (ss ++ [s], if l = true then -1 else x + 1, 0)) := by show _ = _; unfold M.recv; rw [if_pos rfl, if_pos hls]
    have CT := M.hl (iTaken_any W5 w2.heap.size (.slice va n vc) ss x x l s y O5.out (by have := B5.out.size; have := (Array.getElem?_eq_some_iff.1 E3.out).1; omega) (by have := HN.out; omega) (by omega) x0 (by omega))
    obtain ⟨X, hX⟩ : ∃ X : Int, X = if l = true then -1 else x + 1 := ⟨_, rfl⟩
    rw [← hX] at CT
    have HX := M.hl hX
    have HLS := M.hl hls
    clear hX hls
    have d2 : l = false → ((s.size : Int) == 64) = true := fun h => by rcases HLS.out with h1 | h1; (rw [h] at h1; cases h1); (rw [beq_iff_eq]; omega)
    have GO : ∀ (cnd : Bool), l = cnd → True := fun _ _ => trivial
    clear GO
    cases l
    all_goals
      try have d3 := d2 rfl
      try clear d2
      go_wp2_with fail
      refine CT.out.mono ?_
      rintro e w6 ⟨v6, rfl, hO6, hg6⟩
      have h6l : (ss ++ [s]).length = n + 1 := by rw [List.length_append, ← HN.out]; rfl
      obtain ⟨va6, vc6, rfl⟩ := hO6.lenN h6l
      have O6 := M.hl hO6
      have B6 : Hid (Below w.heap.size w w6) := B5.out.grown hg6 B5.out.size (fun j hj => by have := (World.ownsRow.lt O5.out j hj).1; omega)
      have F0 := M.hl ((hg6.block w.heap.size (Array.getElem?_eq_some_iff.1 E0.out).1 (fun e => (O5.out.notIn E0.out (by decide)) _ e.symm rfl)).trans E0.out)
      have F2 := M.hl ((hg6.block (w.heap.size + 1 + 1) (Array.getElem?_eq_some_iff.1 E2.out).1 (fun e => N2.out _ e.symm rfl)).trans E2.out)
      have F3 := M.hl ((hg6.block BX (Array.getElem?_eq_some_iff.1 E3.out).1 (fun e => N3.out _ e.symm rfl)).trans E3.out)
      have N3 := M.hl (O6.out.notIn F3.out (by decide))
      have N2 := M.hl (O6.out.notIn F2.out (by decide))
      clear hO6 hg6 k0 k1 p0 p1 p2 p3 r0 r1 r2 r3 r4 r5 r6 r7 r8 m0 m1 m2 m3 m4 m5 m6 m7 m8 fr fm E0 E1 E2 E3 O5 CT
      have r0 := M.bk_cell F2.out 0 (.slice none 0 0) rfl
      have r1 := M.bk_cell F2.out 1 (.int .i64 0) rfl
      have r2 := M.bk_cell F2.out 2 (.int .i64 0) rfl
      have r3 := M.bk_cell F2.out 3 (.int .i64 0) rfl
      have r4 := M.bk_cell F2.out 4 (.slice none 0 0) rfl
      have r5 := M.bk_cell F2.out 5 (.int .i64 0) rfl
      have r6 := M.bk_cell F2.out 6 (.slice none 0 0) rfl
      have r7 := M.bk_cell F2.out 7 (.int .i64 0) rfl
      have r8 := M.bk_cell F2.out 8 (.int .i64 0) rfl
      have m0 := M.bk_cell F3.out 0 (.slice none 0 0) rfl
      have m1 := M.bk_cell F3.out 1 (.int .i64 0) rfl
      have m2 := M.bk_cell F3.out 2 (.int .i64 0) rfl
      have m3 := M.bk_cell F3.out 3 (.int .i64 0) rfl
      have m4 := M.bk_cell F3.out 4 (.slice va n vc) rfl
      have m5 := M.bk_cell F3.out 5 (.int .i64 x) rfl
      have m6 := M.bk_cell F3.out 6 (.slice none 0 0) rfl
      have m7 := M.bk_cell F3.out 7 (.int .i64 0) rfl
      have m8 := M.bk_cell F3.out 8 (.int .i64 0) rfl
      have fr := M.bk_free F2.out
      have fm := M.bk_free F3.out
      go_wp2
      refine bodyPost_ret (v := .agg #[.slice none 0 0, .int .i64 0, .int .i64 0, .int .i64 0, .slice va6 (n + 1) vc6, .int .i64 X, .slice none 0 0, .int .i64 ((n : Int) + 1), .int .i64 0]) (by simp [results, Try.results15, go_sem, r0, r1, r2, r3, r4, r5, r6, r7, r8]) rfl ?_
      rw [HE.out]
      refine ⟨_, by rw [HX.out, h6l]; rfl, ?_, ?_⟩
      · exact M.OwnS.lower (base := w2.heap.size) ((((((((((((O6.out.setN N3.out _ _).setN N3.out _ _).setN N3.out _ _).setN N2.out _ _).setN N2.out _ _).setN N2.out _ _).setN N2.out _ _).setN N2.out _ _).setN N2.out _ _).setN N2.out _ _).setN N2.out _ _).setN N2.out _ _) (by have := HZ2.out; omega)
      · exact (M.stB (M.stB (M.stB (M.stB (M.stB (M.stB (M.stB (M.stB (M.stB (M.stB (M.stB (M.stB B6.out (by omega) _ _) (by omega) _ _) (by omega) _ _) (by omega) _ _) (by omega) _ _) (by omega) _ _) (by omega) _ _) (by omega) _ _) (by omega) _ _) (by omega) _ _) (by omega) _ _) (by omega) _ _)
  · skip
    have hz4 : w2.heap.size < w4.heap.size := by have := B24.out.size; have := WZ.out (.cells #[.slice none 0 0, .int .i64 0, .int .i64 0, .int .i64 0, .slice none 0 0, .int .i64 0, .slice none 0 0, .int .i64 0, .int .i64 0] 36); omega
    obtain ⟨W5, hW5⟩ : ∃ W5, W5 = (((((((((w4.setCell ⟨w2.heap.size, 0, none⟩ (.slice none 0 0)).setCell ⟨w2.heap.size, 1, none⟩ (.int .i64 0)).setCell ⟨w2.heap.size, 2, none⟩ (.int .i64 0)).setCell ⟨w2.heap.size, 3, none⟩ (.int .i64 0)).setCell ⟨w2.heap.size, 4, none⟩ (.slice va n vc)).setCell ⟨w2.heap.size, 5, none⟩ (.int .i64 x)).setCell ⟨w2.heap.size, 6, none⟩ (.slice none 0 0)).setCell ⟨w2.heap.size, 7, none⟩ (.int .i64 0)).setCell ⟨w2.heap.size, 8, none⟩ (.int .i64 0)) := ⟨_, rfl⟩
    obtain ⟨BX, hBX⟩ : ∃ BX, BX = w2.heap.size := ⟨_, rfl⟩
    have AL : Hid (∀ b, b < w2.heap.size → W5.heap[b]? = w2.heap[b]?) := fun b hb' => by rw [hW5]; exact (M.set9o (by omega)).trans ((B24.out.block b (Nat.lt_trans hb' (WZ.out _))).trans (heap_alloc_old _ _ hb'))
    have E3 : Hid (W5.heap[BX]? = some (.cells #[.slice none 0 0, .int .i64 0, .int .i64 0, .int .i64 0, .slice va n vc, .int .i64 x, .slice none 0 0, .int .i64 0, .int .i64 0] 36 (0, 0))) := by rw [hW5, hBX]; exact M.set9h ZB.out
    have O5 : Hid (M.OwnS W5 w2.heap.size (.slice va n vc) ss) := by
      have N4 := O4.out.notIn ZB.out (by decide)
      rw [hW5]
      exact (((((((((O4.out.setN N4 _ _).setN N4 _ _).setN N4 _ _).setN N4 _ _).setN N4 _ _).setN N4 _ _).setN N4 _ _).setN N4 _ _).setN N4 _ _).lower (by have := WZ.out (.cells #[.slice none 0 0, .int .i64 0, .int .i64 0, .int .i64 0, .slice none 0 0, .int .i64 0, .slice none 0 0, .int .i64 0, .int .i64 0] 36); omega)
    have B5 : Hid (Below w.heap.size w W5) := by
      rw [hW5]
      exact (M.stB (M.stB (M.stB (M.stB (M.stB (M.stB (M.stB (M.stB (M.stB ((WX.out _).trans (B24.out.mono (WX.out _).size)) (by omega) _ _) (by omega) _ _) (by omega) _ _) (by omega) _ _) (by omega) _ _) (by omega) _ _) (by omega) _ _) (by omega) _ _) (by omega) _ _)
    rw [← hW5, ← hBX]
    have hBX2 : w2.heap.size ≤ BX := by omega
    clear hW5 hBX B24 O4 k0 k1 m0 m1
    have E0 : Hid (W5.heap[w.heap.size]? = some (.cells #[.slice a n c, .int .i64 x] 27 (0, 0))) := (AL.out _ (by omega)).trans V0.out
    have E1 : Hid (W5.heap[w.heap.size + 1]? = some (.cells #[.int .i64 q, .bool l, .string s, .int .i64 y] 29 (0, 0))) := (AL.out _ (by omega)).trans V1.out
    have E2 : Hid (W5.heap[w.heap.size + 1 + 1]? = some (.cells #[.slice none 0 0, .int .i64 0, .int .i64 0, .int .i64 0, .slice none 0 0, .int .i64 0, .slice none 0 0, .int .i64 0, .int .i64 0] 36 (0, 0))) := (AL.out _ (by omega)).trans V2.out
    clear AL
    have k0 := M.bk_cell E0.out 0 (.slice a n c) rfl
    have k1 := M.bk_cell E0.out 1 (.int .i64 x) rfl
    have p0 := M.bk_cell E1.out 0 (.int .i64 q) rfl
    have p1 := M.bk_cell E1.out 1 (.bool l) rfl
    have p2 := M.bk_cell E1.out 2 (.string s) rfl
    have p3 := M.bk_cell E1.out 3 (.int .i64 y) rfl
    have r0 := M.bk_cell E2.out 0 (.slice none 0 0) rfl
    have r1 := M.bk_cell E2.out 1 (.int .i64 0) rfl
    have r2 := M.bk_cell E2.out 2 (.int .i64 0) rfl
    have r3 := M.bk_cell E2.out 3 (.int .i64 0) rfl
    have r4 := M.bk_cell E2.out 4 (.slice none 0 0) rfl
    have r5 := M.bk_cell E2.out 5 (.int .i64 0) rfl
    have r6 := M.bk_cell E2.out 6 (.slice none 0 0) rfl
    have r7 := M.bk_cell E2.out 7 (.int .i64 0) rfl
    have r8 := M.bk_cell E2.out 8 (.int .i64 0) rfl
    have m0 := M.bk_cell E3.out 0 (.slice none 0 0) rfl
    have m1 := M.bk_cell E3.out 1 (.int .i64 0) rfl
    have m2 := M.bk_cell E3.out 2 (.int .i64 0) rfl
    have m3 := M.bk_cell E3.out 3 (.int .i64 0) rfl
    have m4 := M.bk_cell E3.out 4 (.slice va n vc) rfl
    have m5 := M.bk_cell E3.out 5 (.int .i64 x) rfl
    have m6 := M.bk_cell E3.out 6 (.slice none 0 0) rfl
    have m7 := M.bk_cell E3.out 7 (.int .i64 0) rfl
    have m8 := M.bk_cell E3.out 8 (.int .i64 0) rfl
    have fr := M.bk_free E2.out
    have fm := M.bk_free E3.out
    have hne1 : ¬ (w.heap.size + 1 + 1 = BX) := by omega
    have hne0 : ¬ (w.heap.size = BX) := by omega
    have hneP : ¬ (w.heap.size + 1 = BX) := by omega
    have hne1' : ¬ (BX = w.heap.size + 1 + 1) := by omega
    have hne0' : ¬ (BX = w.heap.size) := by omega
    have hneP' : ¬ (BX = w.heap.size + 1) := by omega
    have N3 := M.hl (O5.out.notIn E3.out (by decide))
    have N2 := M.hl (O5.out.notIn E2.out (by decide))
    have HBX := M.hl hBX2
    have HZ2 := M.hl hz2
    by_cases hxq : x = q
    case neg =>
      have HE : Hid (M.recv ss x q l s = (ss, x, 0)) := by show _ = _; unfold M.recv; rw [if_neg hxq]
      have d1 : ((x : Int) == q) = false := by rw [beq_eq_false_iff_ne]; exact hxq
      clear hxq
      go_wp2
      refine bodyPost_ret (v := .agg #[.slice none 0 0, .int .i64 0, .int .i64 0, .int .i64 0, .slice va n vc, .int .i64 x, .slice none 0 0, .int .i64 (n : Int), .int .i64 0]) (by simp [results, Try.results15, go_sem, r0, r1, r2, r3, r4, r5, r6, r7, r8]) rfl ?_
      rw [HE.out]
      refine ⟨.slice va n vc, by simp only [← HN.out], ?_, ?_⟩
      · exact M.OwnS.lower (base := w2.heap.size) ((((((((((O5.out.setN N3.out _ _).setN N2.out _ _).setN N2.out _ _).setN N2.out _ _).setN N2.out _ _).setN N2.out _ _).setN N2.out _ _).setN N2.out _ _).setN N2.out _ _).setN N2.out _ _) (by have := HZ2.out; omega)
      · exact (M.stB (M.stB (M.stB (M.stB (M.stB (M.stB (M.stB (M.stB (M.stB (M.stB B5.out (by omega) _ _) (by omega) _ _) (by omega) _ _) (by omega) _ _) (by omega) _ _) (by omega) _ _) (by omega) _ _) (by omega) _ _) (by omega) _ _) (by omega) _ _)
    subst hxq
    have d1 : ((x : Int) == x) = true := by simp
    by_cases hls : l = true ∨ s.size = 64
    case neg =>
      have HE : Hid (M.recv ss x x l s = (ss, x, 3)) := by show _ = _; unfold M.recv; rw [if_pos rfl, if_neg hls]
      have hl0 : l = false := by cases l; rfl; exact absurd (.inl rfl) hls
      subst hl0
      have d2 : ((s.size : Int) == 64) = false := by rw [beq_eq_false_iff_ne]; intro e; exact hls (.inr (by omega))
      clear hls
      go_wp2
      refine bodyPost_ret (v := .agg #[.slice none 0 0, .int .i64 0, .int .i64 0, .int .i64 0, .slice va n vc, .int .i64 x, .slice none 0 0, .int .i64 (n : Int), .int .i64 3]) (by simp [results, Try.results15, go_sem, r0, r1, r2, r3, r4, r5, r6, r7, r8]) rfl ?_
      rw [HE.out]
      refine ⟨.slice va n vc, by simp only [← HN.out], ?_, ?_⟩
      · exact M.OwnS.lower (base := w2.heap.size) (((((((((((O5.out.setN N3.out _ _).setN N3.out _ _).setN N2.out _ _).setN N2.out _ _).setN N2.out _ _).setN N2.out _ _).setN N2.out _ _).setN N2.out _ _).setN N2.out _ _).setN N2.out _ _).setN N2.out _ _) (by have := HZ2.out; omega)
      · exact (M.stB (M.stB (M.stB (M.stB (M.stB (M.stB (M.stB (M.stB (M.stB (M.stB (M.stB B5.out (by omega) _ _) (by omega) _ _) (by omega) _ _) (by omega) _ _) (by omega) _ _) (by omega) _ _) (by omega) _ _) (by omega) _ _) (by omega) _ _) (by omega) _ _) (by omega) _ _)
    have HE : Hid (M.recv ss x x l s = (ss ++ [s], if l = true then -1 else x + 1, 0)) := by show _ = _; unfold M.recv; rw [if_pos rfl, if_pos hls]
    have CT := M.hl (iTaken_any W5 w2.heap.size (.slice va n vc) ss x x l s y O5.out (by have := B5.out.size; have := (Array.getElem?_eq_some_iff.1 E3.out).1; omega) (by have := HN.out; omega) (by omega) x0 (by omega))
    obtain ⟨X, hX⟩ : ∃ X : Int, X = if l = true then -1 else x + 1 := ⟨_, rfl⟩
    rw [← hX] at CT
    have HX := M.hl hX
    have HLS := M.hl hls
    clear hX hls
    have d2 : l = false → ((s.size : Int) == 64) = true := fun h => by rcases HLS.out with h1 | h1; (rw [h] at h1; cases h1); (rw [beq_iff_eq]; omega)
    have GO : ∀ (cnd : Bool), l = cnd → True := fun _ _ => trivial
    clear GO
    cases l
    all_goals
      try have d3 := d2 rfl
      try clear d2
      go_wp2_with fail
      refine CT.out.mono ?_
      rintro e w6 ⟨v6, rfl, hO6, hg6⟩
      have h6l : (ss ++ [s]).length = n + 1 := by rw [List.length_append, ← HN.out]; rfl
      obtain ⟨va6, vc6, rfl⟩ := hO6.lenN h6l
      have O6 := M.hl hO6
      have B6 : Hid (Below w.heap.size w w6) := B5.out.grown hg6 B5.out.size (fun j hj => by have := (World.ownsRow.lt O5.out j hj).1; omega)
      have F0 := M.hl ((hg6.block w.heap.size (Array.getElem?_eq_some_iff.1 E0.out).1 (fun e => (O5.out.notIn E0.out (by decide)) _ e.symm rfl)).trans E0.out)
      have F2 := M.hl ((hg6.block (w.heap.size + 1 + 1) (Array.getElem?_eq_some_iff.1 E2.out).1 (fun e => N2.out _ e.symm rfl)).trans E2.out)
      have F3 := M.hl ((hg6.block BX (Array.getElem?_eq_some_iff.1 E3.out).1 (fun e => N3.out _ e.symm rfl)).trans E3.out)
      have N3 := M.hl (O6.out.notIn F3.out (by decide))
      have N2 := M.hl (O6.out.notIn F2.out (by decide))
      clear hO6 hg6 k0 k1 p0 p1 p2 p3 r0 r1 r2 r3 r4 r5 r6 r7 r8 m0 m1 m2 m3 m4 m5 m6 m7 m8 fr fm E0 E1 E2 E3 O5 CT
      have r0 := M.bk_cell F2.out 0 (.slice none 0 0) rfl
      have r1 := M.bk_cell F2.out 1 (.int .i64 0) rfl
      have r2 := M.bk_cell F2.out 2 (.int .i64 0) rfl
      have r3 := M.bk_cell F2.out 3 (.int .i64 0) rfl
      have r4 := M.bk_cell F2.out 4 (.slice none 0 0) rfl
      have r5 := M.bk_cell F2.out 5 (.int .i64 0) rfl
      have r6 := M.bk_cell F2.out 6 (.slice none 0 0) rfl
      have r7 := M.bk_cell F2.out 7 (.int .i64 0) rfl
      have r8 := M.bk_cell F2.out 8 (.int .i64 0) rfl
      have m0 := M.bk_cell F3.out 0 (.slice none 0 0) rfl
      have m1 := M.bk_cell F3.out 1 (.int .i64 0) rfl
      have m2 := M.bk_cell F3.out 2 (.int .i64 0) rfl
      have m3 := M.bk_cell F3.out 3 (.int .i64 0) rfl
      have m4 := M.bk_cell F3.out 4 (.slice va n vc) rfl
      have m5 := M.bk_cell F3.out 5 (.int .i64 x) rfl
      have m6 := M.bk_cell F3.out 6 (.slice none 0 0) rfl
      have m7 := M.bk_cell F3.out 7 (.int .i64 0) rfl
      have m8 := M.bk_cell F3.out 8 (.int .i64 0) rfl
      have fr := M.bk_free F2.out
      have fm := M.bk_free F3.out
      go_wp2
      refine bodyPost_ret (v := .agg #[.slice none 0 0, .int .i64 0, .int .i64 0, .int .i64 0, .slice va6 (n + 1) vc6, .int .i64 X, .slice none 0 0, .int .i64 ((n : Int) + 1), .int .i64 0]) (by simp [results, Try.results15, go_sem, r0, r1, r2, r3, r4, r5, r6, r7, r8]) rfl ?_
      rw [HE.out]
      refine ⟨_, by rw [HX.out, h6l]; rfl, ?_, ?_⟩
      · exact M.OwnS.lower (base := w2.heap.size) ((((((((((((O6.out.setN N3.out _ _).setN N3.out _ _).setN N3.out _ _).setN N2.out _ _).setN N2.out _ _).setN N2.out _ _).setN N2.out _ _).setN N2.out _ _).setN N2.out _ _).setN N2.out _ _).setN N2.out _ _).setN N2.out _ _) (by have := HZ2.out; omega)
      · exact (M.stB (M.stB (M.stB (M.stB (M.stB (M.stB (M.stB (M.stB (M.stB (M.stB (M.stB (M.stB B6.out (by omega) _ _) (by omega) _ _) (by omega) _ _) (by omega) _ _) (by omega) _ _) (by omega) _ _) (by omega) _ _) (by omega) _ _) (by omega) _ _) (by omega) _ _) (by omega) _ _) (by omega) _ _)
end Go.Proofs.Ytgppdhfhcnkfpaa
