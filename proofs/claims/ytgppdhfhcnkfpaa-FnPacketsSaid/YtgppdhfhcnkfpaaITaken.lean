/-
  What taken of the program does: a piece more behind those that a receiver of the call's own has.
-/
import Derived.Test.YtgppdhfhcnkfpaaStepLaws
import Derived.Test.YtgppdhfhcnkfpaaSendCopy
namespace Go.Proofs.Ytgppdhfhcnkfpaa
open Go.RowKit

theorem M.OwnS.lenN {w : World} {base n : Nat} {v : Value} {ss : List ByteArray} (h : M.OwnS w base v ss) (hn : ss.length = n) : ∃ a c, v = .slice a n c := by
  subst hn
  exact h.len

/-- A row of texts is no block of another kind. -/
theorem M.OwnS.notIn {W : World} {base : Nat} {v : Value} {ss : List ByteArray} (h : M.OwnS W base v ss) {H : Nat} {arr : Array Value} {T : TypeId} (hH : W.heap[H]? = some (.cells arr T (0, 0))) (hT : T ≠ 9) : ∀ g, v.ownBlock = some g → g ≠ H := by
  obtain ⟨-, ⟨rfl, -⟩ | ⟨g, cap, cur, rfl, -, hh, -⟩⟩ := h
  · intro j hj; cases hj
  · intro j hj e
    have hj' : g = j := by simpa [Value.ownBlock] using hj
    rw [hj', e, hH] at hh
    have := Option.some.inj hh
    simp at this
    exact hT this.2
theorem M.OwnS.setN {w : World} {base : Nat} {v : Value} {ss : List ByteArray} (h : M.OwnS w base v ss) {H : Nat} (hH : ∀ g, v.ownBlock = some g → g ≠ H) (j : Nat) (u : Value) : M.OwnS (w.setCell ⟨H, j, none⟩ u) base v ss := by
  obtain ⟨hl, h0 | ⟨g, cap, cur, hv, hg, hh, hr⟩⟩ := h
  · exact ⟨hl, .inl h0⟩
  · have hne : H ≠ g := fun e => hH g (by rw [hv]; rfl) e.symm
    exact ⟨hl, .inr ⟨g, cap, cur, hv, hg, by rw [M.setfr hne]; exact hh, hr⟩⟩
theorem M.grwNew {w W : World} {row : Option Nat} (h : w.grownBy W row) {H : Nat} (hH : w.heap.size ≤ H) (j : Nat) (u : Value) : w.grownBy (W.setCell ⟨H, j, none⟩ u) row :=
  ⟨h.os, h.tape, h.output, by have := h.size; simp [World.setCell]; omega, fun k hk hne => by rw [M.setfr (by omega)]; exact h.block k hk hne⟩

set_option maxRecDepth 100000 in
set_option maxHeartbeats 3200000 in
theorem iTaken_any (w : World) (base : Nat) (v : Value) (ss : List ByteArray) (x q : Int) (l : Bool) (s : ByteArray) (c : Int) (h : M.OwnS w base v ss) (hb : base ≤ w.heap.size) (hl : ss.length ≤ 400) (hs : s.size ≤ 100000000) (hx0 : -1 ≤ x) (hx1 : x ≤ 1000) :
    Calls Try.prog 54 #[.agg #[v, .int .i64 x], .agg #[.int .i64 q, .bool l, .string s, .int .i64 c]] w fun e w' => ∃ v', e = .returned (.agg #[v', .int .i64 (if l = true then -1 else x + 1)]) ∧ M.OwnS w' base v' (ss ++ [s]) ∧ w.grownBy w' v.ownBlock := by
  obtain ⟨i0, hi, hz0, hz1, hz2⟩ := info_parts Try.infoTx
  obtain ⟨n, hn⟩ : ∃ n, ss.length = n := ⟨_, rfl⟩
  have LT := M.hl (World.ownsRow.lt h)
  have HO := M.hl h
  obtain ⟨a, cap, rfl⟩ := h.lenN hn
  have HN := M.hl hn
  have hn4 : n ≤ 400 := by omega
  have BW : Hid (∀ o1 o2 o3, Below w.heap.size w (((w.alloc o1).alloc o2).alloc o3)) := fun o1 o2 o3 => (((Below.refl _ _).alloc (Nat.le_refl _) _).alloc (by simp) _).alloc (by simp; omega) _
  have CK : Hid (∀ W, Calls Try.prog 72 #[.string s] W fun e w' => e = .returned (.string s) ∧ Below W.heap.size W w') := fun W => iCloneT_any s W hs
  obtain ⟨y, hy⟩ : ∃ y : Int, y = if l = true then -1 else x + 1 := ⟨_, rfl⟩
  rw [← hy]
  have HY := M.hl hy
  clear h hn hy
  generalize hW : ((w.alloc (.cells #[.slice a n cap, .int .i64 x] 27)).alloc (.cells #[.int .i64 q, .bool l, .string s, .int .i64 c] 29)).alloc (.cells #[.slice none 0 0, .int .i64 0] 27) = W0
  go_enter Try.func54, Try.ntmps54
  go_wp2_with fail
  try rw [hW]
  obtain ⟨t0, t1, t2⟩ := M.thr3 w (.cells #[.slice a n cap, .int .i64 x] 27) (.cells #[.int .i64 q, .bool l, .string s, .int .i64 c] 29) (.cells #[.slice none 0 0, .int .i64 0] 27)
  rw [hW] at t0 t1 t2
  have T0 := M.hl t0
  have T1 := M.hl t1
  have T2 := M.hl t2
  have BW0 : Hid (Below w.heap.size w W0) := by rw [← hW]; exact BW.out _ _ _
  have hW0 : w.heap.size + 1 + 1 < W0.heap.size := (Array.getElem?_eq_some_iff.1 t2).1
  have k0 := M.bk_cell t0 0 (.slice a n cap) rfl
  have k1 := M.bk_cell t0 1 (.int .i64 x) rfl
  have m2 := M.bk_cell t1 2 (.string s) rfl
  have BD : Hid (Below W0.heap.size W0 W0.drew) := (Below.refl _ _).drew
  clear hW t0 t1 t2
  go_region_law (first | (refine M.stepCall1 rfl 72 (.tmp 8) 9 rfl (.string s) (by simp [Act.eval]) (.string s) (fun w' => Below W0.drew.heap.size W0.drew w') (CK.out _) (by kernel_rfl) ?_; intro w4 hb4; have B4 := M.hl (M.sl BD.out hb4); have O4 := M.hl ((HO.out.below BW0.out).below B4.out); have hs4 : W0.heap.size ≤ w4.heap.size := B4.out.size; have z0 : w4.cell? ⟨w.heap.size, 0, none⟩ = some (.slice a n cap) := M.bk_cell ((B4.out.block w.heap.size (by omega)).trans T0.out) 0 _ rfl; have z0a : ∀ o, (w4.alloc o).cell? ⟨w.heap.size, 0, none⟩ = some (.slice a n cap) := fun o => M.bk_cell ((heap_alloc_old _ _ (by omega)).trans ((B4.out.block w.heap.size (by omega)).trans T0.out)) 0 _ rfl; clear hb4) | (refine M.stepApp rfl (.tmp 6) (.tmp 10) 24 rfl base 9 i0 (.string ⟨#[]⟩) 1 16 Try.underlying24 hi hz0 hz1 hz2 rfl (by decide) (.slice a n cap) n (ss.map Value.string) (by simp [Act.eval]) (by have := O4.out; unfold M.OwnS at this; rw [HN.out] at this; exact World.ownsRow.alloc this _) ⟨w4.heap.size, 0, none⟩ 1 1 [.string s] (by simp [Act.eval]) rfl (M.one_n _ _ _) (M.oneCellS s) (by unfold maxLen; omega) (by omega) (by simp; omega) ?_; intro v' w9 hown hgrow; have hO9 : M.OwnS w9 base v' (ss ++ [s]) := M.OwnS.more (by rw [HN.out]; exact hown); obtain ⟨a9, c9, rfl⟩ := hO9.lenN (show (ss ++ [s]).length = n + 1 by rw [List.length_append, HN.out]; rfl); have O9 := M.hl hO9; have G9 := M.hl hgrow; have BK := M.hl (fun (b : Nat) (h1 : w.heap.size ≤ b) (h2 : b < W0.heap.size) => (hgrow.block b (by simp; omega) (fun e => by have := (LT.out _ e.symm).2; omega)).trans ((heap_alloc_old _ _ (by omega)).trans (B4.out.block b h2))); have z9 := M.bk_cell ((BK.out w.heap.size (by omega) (by omega)).trans T0.out) 0 (.slice a n cap) rfl; have f9 := M.bk_free ((BK.out w.heap.size (by omega) (by omega)).trans T0.out); clear hO9 hown hgrow))
  all_goals
    have e0 := (BK.out w.heap.size (by omega) (by omega)).trans T0.out
    have e1 := (BK.out (w.heap.size + 1) (by omega) (by omega)).trans T1.out
    have e2 := (BK.out (w.heap.size + 1 + 1) (by omega) (by omega)).trans T2.out
    have c1 := M.bk_cell e0 1 (.int .i64 x) rfl
    have p1 := M.bk_cell e1 1 (.bool l) rfl
    have r0 := M.bk_cell e2 0 (.slice none 0 0) rfl
    have r1 := M.bk_cell e2 1 (.int .i64 0) rfl
    have fr := M.bk_free e2
    have N0 := M.hl (O9.out.notIn e0 (by decide))
    have N2 := M.hl (O9.out.notIn e2 (by decide))
    have GW : Hid (w.grownBy w9 (Value.slice a n cap).ownBlock) := (World.grownBy.trans (⟨(M.sl BW0.out B4.out).os, (M.sl BW0.out B4.out).tape, (M.sl BW0.out B4.out).output, (M.sl BW0.out B4.out).size, fun k hk _ => (M.sl BW0.out B4.out).block k hk⟩ : w.grownBy w4 (Value.slice a n cap).ownBlock) (((World.grownBy_alloc w4 _ none).but _).trans G9.out))
    have ex : IntKind.i64.wrap (x + 1) = x + 1 := by rw [IntKind.wrap_i64]; omega
    clear e0 e1 e2 z0 z0a k0 k1 m2
    cases l
    · have HY1 : Hid (y = x + 1) := by show _ = _; have := HY.out; simpa using this
      go_wp2
      refine bodyPost_ret (v := .agg #[.slice a9 (n + 1) c9, .int .i64 (x + 1)]) (by simp [results, Try.results54, go_sem, r0, r1]) rfl ⟨_, by rw [HY1.out], ?_, ?_⟩
      · exact (((O9.out.setN N0.out _ _).setN N0.out _ _).setN N2.out _ _).setN N2.out _ _
      · exact M.grwNew (M.grwNew (M.grwNew (M.grwNew GW.out (by omega) _ _) (by omega) _ _) (by omega) _ _) (by omega) _ _
    · have HY1 : Hid (y = -1) := by show _ = _; have := HY.out; simpa using this
      have cc2 : (((w9.setCell ⟨w.heap.size, 0, none⟩ (.slice a9 (n + 1) c9)).setCell ⟨w.heap.size, 1, none⟩ (.int .i64 (x + 1))).setCell ⟨w.heap.size, 1, none⟩ (.int .i64 (-1))).cell? ⟨w.heap.size, 1, none⟩ = some (.int .i64 (-1)) :=
        World.cell?_setCell_same _ _ _ (World.cell?_setCell_same _ _ _ ((World.cell?_setCell_other _ _ _ _ (by simp)).trans c1))
      go_wp2
      refine bodyPost_ret (v := .agg #[.slice a9 (n + 1) c9, .int .i64 (-1)]) (by simp [results, Try.results54, go_sem, r0, r1]) rfl ⟨_, by rw [HY1.out], ?_, ?_⟩
      · exact ((((O9.out.setN N0.out _ _).setN N0.out _ _).setN N0.out _ _).setN N2.out _ _).setN N2.out _ _
      · exact M.grwNew (M.grwNew (M.grwNew (M.grwNew (M.grwNew GW.out (by omega) _ _) (by omega) _ _) (by omega) _ _) (by omega) _ _) (by omega) _ _
end Go.Proofs.Ytgppdhfhcnkfpaa
