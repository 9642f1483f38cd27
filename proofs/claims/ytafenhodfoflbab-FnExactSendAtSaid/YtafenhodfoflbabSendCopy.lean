/-
  What senderCopy of the program and l06Sender of the specification do.
-/
import Derived.Test.YtafenhodfoflbabICopyT
import Derived.Test.YtafenhodfoflbabLinkBox
namespace Go.Proofs.Ytafenhodfoflbab
open Go.RowKit

theorem M.OwnS.lower {w : World} {base low : Nat} {v : Value} {ss : List ByteArray} (h : M.OwnS w base v ss) (hb : low ≤ base) : M.OwnS w low v ss := by
  obtain ⟨hl, h0 | ⟨g, cap, cur, hv, hg, hr⟩⟩ := h
  · exact ⟨hl, .inl h0⟩
  · exact ⟨hl, .inr ⟨g, cap, cur, hv, Nat.le_trans hb hg, hr⟩⟩
theorem M.OwnS.setLow {w : World} {base : Nat} {v : Value} {ss : List ByteArray} (h : M.OwnS w base v ss) {H : Nat} (hH : H < base) (j : Nat) (u : Value) : M.OwnS (w.setCell ⟨H, j, none⟩ u) base v ss := by
  obtain ⟨hl, h0 | ⟨g, cap, cur, hv, hg, hh, hr⟩⟩ := h
  · exact ⟨hl, .inl h0⟩
  · exact ⟨hl, .inr ⟨g, cap, cur, hv, hg, by rw [M.setfr (by omega)]; exact hh, hr⟩⟩
theorem M.OwnS.len {w : World} {base : Nat} {v : Value} {ss : List ByteArray} (h : M.OwnS w base v ss) : ∃ a cap, v = .slice a ss.length cap := by
  obtain ⟨a, cap, hv, _⟩ := h.strs
  exact ⟨a, cap, hv⟩
theorem M.empty_row (W : World) (T : TypeId) (base : Nat) (h : base ≤ W.heap.size) : (W.alloc (.cells #[] T)).ownsRow base T 1 (.slice (some ⟨W.heap.size, 0, none⟩) 0 0) 0 [] :=
  ⟨rfl, .inr ⟨_, 0, #[], rfl, h, heap_alloc_new _ _, Nat.le_refl _, by decide, rfl, rfl⟩⟩
theorem M.Strs.src {w : World} {ad : Addr} {len cap : Nat} {ss : List ByteArray} (h : M.Strs w (some ad) len cap ss) : ∀ j u, (ss.map Value.string)[j]? = some u → w.cell? (ad.add j) = some u := by
  intro j u hu
  rw [List.getElem?_map] at hu
  have hj : j < ss.length := by
    by_cases hj : j < ss.length
    · exact hj
    · rw [List.getElem?_eq_none (by omega)] at hu; cases hu
  rw [List.getElem?_eq_getElem hj] at hu
  obtain ⟨h1, -, -, h4⟩ := h
  obtain ⟨b, off, hb, hf⟩ := h4 (by omega)
  obtain rfl := Option.some.inj hb
  rw [Addr.add_lit, hf j hj]
  exact hu

set_option maxRecDepth 100000 in
set_option maxHeartbeats 1600000 in
theorem iSCopy_any (w : World) (a : Option Addr) (n c : Nat) (ss : List ByteArray) (x d t : Int) (h : M.Strs w a n c ss) (hok : ∀ s ∈ ss, s.size ≤ 100000000) (hl : n ≤ 1048576) :
    Calls Try.prog 46 #[.agg #[.slice a n c, .int .i64 x, .int .i64 d, .int .i64 t]] w fun e w' => ∃ v, e = .returned (.agg #[v, .int .i64 x, .int .i64 d, .int .i64 t]) ∧ M.OwnS w' w.heap.size v ss ∧ Below w.heap.size w w' := by
  have HB : Hid (∀ o1 o2, Below w.heap.size w ((w.alloc o1).alloc o2)) := fun o1 o2 => ((Below.refl _ _).alloc (Nat.le_refl _) _).alloc (by simp) _
  have CS : Hid (∀ o1 o2, Calls Try.prog 58 #[.slice a n c] ((w.alloc o1).alloc o2) fun e w' => ∃ v, e = .returned v ∧ M.OwnS w' (w.heap.size + 1 + 1) v ss ∧ Below ((w.alloc o1).alloc o2).heap.size ((w.alloc o1).alloc o2) w') := fun o1 o2 => by
    have := iCopyT_any ((w.alloc o1).alloc o2) a n c ss (h.below (HB.out o1 o2)) hok hl
    simpa using this
  clear h hok
  go_enter Try.func46, Try.ntmps46
  go_wp2_with fail
  refine (CS.out _ _).mono ?_
  rintro e w1 ⟨v, rfl, hO, hb⟩
  have O1 := M.hl hO
  have B1 : Hid (Below w.heap.size w w1) := (HB.out _ _).trans (hb.mono (HB.out _ _).size)
  obtain ⟨t0, t1⟩ := M.thr2 w (.cells #[.slice a n c, .int .i64 x, .int .i64 d, .int .i64 t] 27) (.cells #[.slice none 0 0, .int .i64 0, .int .i64 0, .int .i64 0] 27)
  have u0 := (hb.block w.heap.size (by simp; omega)).trans t0
  have u1 := (hb.block (w.heap.size + 1) (by simp)).trans t1
  have k0 := M.bk_cell u0 0 (.slice a n c) rfl
  have k1 := M.bk_cell u0 1 (.int .i64 x) rfl
  have k2 := M.bk_cell u0 2 (.int .i64 d) rfl
  have k3 := M.bk_cell u0 3 (.int .i64 t) rfl
  have r0 := M.bk_cell u1 0 (.slice none 0 0) rfl
  have r1 := M.bk_cell u1 1 (.int .i64 0) rfl
  have r2 := M.bk_cell u1 2 (.int .i64 0) rfl
  have r3 := M.bk_cell u1 3 (.int .i64 0) rfl
  have fk := M.bk_free u0
  have fr := M.bk_free u1
  obtain ⟨a', cap', rfl⟩ := hO.len
  clear hO hb t0 t1 u0 u1
  go_wp2
  refine bodyPost_ret (v := .agg #[.slice a' ss.length cap', .int .i64 x, .int .i64 d, .int .i64 t]) (by simp [results, Try.results46, go_sem, r0, r1, r2, r3]) rfl ⟨_, rfl, ?_, ?_⟩
  · exact (((((O1.out.setLow (by omega) _ _).setLow (by omega) _ _).setLow (by omega) _ _).setLow (by omega) _ _).setLow (by omega) _ _).lower (by omega)
  · exact ((((B1.out.setCell (by simp) _).setCell (by simp) _).setCell (by simp) _).setCell (by simp) _).setCell (by simp) _

set_option maxRecDepth 100000 in
set_option maxHeartbeats 1600000 in
theorem sSCopy_any (w : World) (ad : Addr) (n c : Nat) (ss : List ByteArray) (x d t : Int) (h : M.Strs w (some ad) n c ss) (hl : n ≤ 1048576) :
    Calls Try.prog 42 #[.agg #[.slice (some ad) n c, .int .i64 x, .int .i64 d, .int .i64 t]] w fun e w' => ∃ v, e = .returned (.agg #[v, .int .i64 x, .int .i64 d, .int .i64 t]) ∧ M.OwnS w' w.heap.size v ss ∧ Below w.heap.size w w' := by
  obtain ⟨i0, hi, hz0, hz1, hz2⟩ := info_parts Try.infoTx
  have HB : Hid (∀ o1 o2 o3, Below w.heap.size w (((w.alloc o1).alloc o2).alloc o3)) := fun o1 o2 o3 => (((Below.refl _ _).alloc (Nat.le_refl _) _).alloc (by simp) _).alloc (by simp; omega) _
  have HS : Hid (∀ o1 o2 o3, ∀ j u, (ss.map Value.string)[j]? = some u → (((w.alloc o1).alloc o2).alloc o3).cell? (ad.add j) = some u) := fun o1 o2 o3 => (h.below (HB.out o1 o2 o3)).src
  have HE : Hid (∀ o1 o2, World.ownsRow (((w.alloc o1).alloc o2).alloc (.cells #[] 9)) (w.heap.size + 1 + 1) 9 1 (.slice (some ⟨w.heap.size + 1 + 1, 0, none⟩) 0 0) 0 []) := fun o1 o2 => by
    have := M.empty_row ((w.alloc o1).alloc o2) 9 (w.heap.size + 1 + 1) (by simp)
    simpa using this
  have HN : Hid (n = ss.length) := h.1
  clear h
  go_enter Try.func42, Try.ntmps42
  go_wp2_with (at_builtin; refine wpList_append_own _ rfl (.tmp 3) (.tmp 5) 22 rfl (w.heap.size + 1 + 1) 9 i0 (.string ⟨#[]⟩) 1 16 Try.underlying22 hi hz0 hz1 hz2 rfl (by decide) _ _ _ rfl (HE.out _ _) ad n c (ss.map Value.string) rfl ?c1 (HS.out _ _ _) ?c2 ?c3 ?c4 ?c5 ?_)
  case c1 => rw [List.length_map, Nat.mul_one]; exact HN.out.symm
  case c2 => exact fun u hu => by obtain ⟨z, _, rfl⟩ := List.mem_map.1 hu; rfl
  case c3 => unfold maxLen; omega
  case c4 => omega
  case c5 => simp
  intro v w1 hown hg _
  have O1 : Hid (M.OwnS w1 (w.heap.size + 1 + 1) v ss) := by
    show World.ownsRow _ _ _ _ _ _ _
    rw [← HN.out]
    simpa using hown
  have B1 : Hid (Below w.heap.size w w1) := (HB.out _ _ _).grown hg (HB.out _ _ _).size (fun j hj => by simp [Value.ownBlock] at hj; omega)
  obtain ⟨t0, t1, -⟩ := M.thr3 w (.cells #[.slice (some ad) n c, .int .i64 x, .int .i64 d, .int .i64 t] 27) (.cells #[.slice none 0 0, .int .i64 0, .int .i64 0, .int .i64 0] 27) (.cells #[] 9)
  have u0 := (hg.block w.heap.size (by simp; omega) (by simp [Value.ownBlock]; omega)).trans t0
  have u1 := (hg.block (w.heap.size + 1) (by simp) (by simp [Value.ownBlock])).trans t1
  have k0 := M.bk_cell u0 0 (.slice (some ad) n c) rfl
  have k1 := M.bk_cell u0 1 (.int .i64 x) rfl
  have k2 := M.bk_cell u0 2 (.int .i64 d) rfl
  have k3 := M.bk_cell u0 3 (.int .i64 t) rfl
  have r0 := M.bk_cell u1 0 (.slice none 0 0) rfl
  have r1 := M.bk_cell u1 1 (.int .i64 0) rfl
  have r2 := M.bk_cell u1 2 (.int .i64 0) rfl
  have r3 := M.bk_cell u1 3 (.int .i64 0) rfl
  have fk := M.bk_free u0
  have fr := M.bk_free u1
  obtain ⟨a', cap', rfl⟩ := O1.out.len
  clear hown hg t0 t1 u0 u1
  go_wp2
  refine bodyPost_ret (v := .agg #[.slice a' ss.length cap', .int .i64 x, .int .i64 d, .int .i64 t]) (by simp [results, Try.results42, go_sem, r0, r1, r2, r3]) rfl ⟨_, rfl, ?_, ?_⟩
  · exact (((((O1.out.setLow (by omega) _ _).setLow (by omega) _ _).setLow (by omega) _ _).setLow (by omega) _ _).setLow (by omega) _ _).lower (by omega)
  · exact ((((B1.out.setCell (by simp) _).setCell (by simp) _).setCell (by simp) _).setCell (by simp) _).setCell (by simp) _
end Go.Proofs.Ytafenhodfoflbab
