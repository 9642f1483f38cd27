/-
  What slices.Reverse of numbers and chainBy of the program do.
-/
import Derived.Test.YtfkadlnfkgheaaaNumOwn
import Derived.Test.YtfkadlnfkgheaaaIMarksR
import Derived.Deep.LoopGhost
namespace Go.Proofs.Ytfkadlnfkgheaaa
open Go.RowKit

/-- Turned round up to i from both ends. -/
def M.Half (zs L : List Int) (i : Nat) : Prop := L.length = zs.length ∧ ∀ t, t < zs.length → L[t]? = if t < i ∨ zs.length < t + 1 + i then zs.reverse[t]? else zs[t]?
theorem M.Half.zero (zs : List Int) : M.Half zs zs 0 := ⟨rfl, fun t ht => by rw [if_neg (by omega)]⟩
theorem M.Half.step {zs L : List Int} {i j : Nat} {x y : Int} (h : M.Half zs L i) (hij : i < j) (hj : i + j + 1 = zs.length) (hx : L[i]? = some x) (hy : L[j]? = some y) : M.Half zs ((L.set i y).set j x) (i + 1) := by
  refine ⟨by simp [h.1], fun t ht => ?_⟩
  have ex := h.2 i (by omega)
  have ey := h.2 j (by omega)
  rw [if_neg (by omega), hx] at ex
  rw [if_neg (by omega), hy] at ey
  by_cases e1 : t = j
  · subst e1
    rw [List.getElem?_set_self (by simp; rw [h.1]; omega), if_pos (by omega), List.getElem?_reverse (by omega), show zs.length - 1 - t = i by omega]
    exact ex
  · rw [List.getElem?_set_ne (by omega)]
    by_cases e2 : t = i
    · subst e2
      rw [List.getElem?_set_self (by rw [h.1]; omega), if_pos (by omega), List.getElem?_reverse (by omega), show zs.length - 1 - t = j by omega]
      exact ey
    · rw [List.getElem?_set_ne (by omega), h.2 t ht]
      by_cases c : t < i ∨ zs.length < t + 1 + i
      · rw [if_pos c, if_pos (by omega)]
      · rw [if_neg c, if_neg (by omega)]
theorem M.Half.done {zs L : List Int} {i : Nat} (h : M.Half zs L i) (hi : zs.length ≤ 2 * i + 1) : L = zs.reverse := by
  apply List.ext_getElem?
  intro t
  by_cases ht : t < zs.length
  · rw [h.2 t ht]
    by_cases c : t < i ∨ zs.length < t + 1 + i
    · rw [if_pos c]
    · rw [if_neg c, List.getElem?_reverse ht, show zs.length - 1 - t = t by omega]
  · rw [List.getElem?_eq_none (by rw [h.1]; omega), List.getElem?_eq_none (by simp; omega)]

set_option maxRecDepth 100000 in
set_option maxHeartbeats 1600000 in
theorem rev_at (w : World) (g cap : Nat) (zs : List Int) (h : M.NumsAt w g cap zs) (hl : zs.length ≤ 1000000) :
    Calls Try.prog 48 #[.slice (some ⟨g, 0, none⟩) zs.length cap] w fun e w' => e = .returned (.tuple #[]) ∧ M.NumsAt w' g cap zs.reverse ∧ w.grownBy w' (some g) := by
  have HN := M.hidm h
  have hlc : zs.length ≤ cap := by obtain ⟨cur, _, h2, _⟩ := h; exact h2
  obtain ⟨n, hn⟩ : ∃ n, n = zs.length := ⟨_, rfl⟩
  have HZ := M.hidm hn
  rw [← hn] at hl hlc ⊢
  clear h hn
  go_enter Try.func48, Try.ntmps48
  go_wp2
  go_loopw [2, 3] (fun x y wr => ∃ (i : Nat) (L : List Int), x = .int .i64 i ∧ y = .int .i64 ((n : Int) - 1 - i) ∧ i ≤ n ∧ Hid (M.Half zs L i) ∧ Hid (M.NumsAt wr g cap L) ∧ Hid (w.grownBy wr (some g))) (fun x _ _ => n - (intOf x).toNat)
  case atStart => exact ⟨0, zs, rfl, by go_num, Nat.zero_le _, M.Half.zero zs, HN, World.grownBy.refl w _⟩
  case round =>
    obtain ⟨i, L, rfl, rfl, hi, HH, HNr, HG⟩ := hrel
    have hLl : L.length = n := by rw [HH.out.1, HZ.out]
    by_cases hlt : (i : Int) < (n : Int) - 1 - i
    · obtain ⟨j, hj⟩ : ∃ j : Nat, j = n - 1 - i := ⟨_, rfl⟩
      have hjI : (n : Int) - 1 - (i : Int) = (j : Int) := by omega
      have hij : i + j + 1 = n := by omega
      have hlt2 : i < j := by omega
      clear hj
      have ci := HNr.out.cell i (by omega)
      have cj := HNr.out.cell j (by omega)
      have hgi := List.getElem?_eq_getElem (l := L) (i := i) (by omega)
      have hgj := List.getElem?_eq_getElem (l := L) (i := j) (by omega)
      generalize L[i]'(by omega) = x at ci hgi
      generalize L[j]'(by omega) = y at cj hgj
      have fi := HNr.out.free i
      have fj := HNr.out.free j
      have HS := M.hidm (HH.out.step hlt2 (by rw [← HZ.out]; exact hij) hgi hgj)
      have HT : Hid (∀ W : World, W.heap[g]? = wr.heap[g]? → M.NumsAt ((W.setCell ⟨g, i, none⟩ (.int .i64 y)).setCell ⟨g, j, none⟩ (.int .i64 x)) g cap ((L.set i y).set j x)) := fun W hW => ((HNr.out.of_block hW).set i y).set j x
      have HU : Hid (∀ W : World, w.grownBy W (some g) → w.grownBy ((W.setCell ⟨g, i, none⟩ (.int .i64 y)).setCell ⟨g, j, none⟩ (.int .i64 x)) (some g)) := fun W hW => M.grownS (M.grownS hW _ _) _ _
      clear hgi hgj HH hLl
      rw [hjI]
      rw [hjI] at hlt
      go_wp2_with fail
      go_region
      go_wp2
      refine ⟨⟨i + 1, (L.set i y).set j x, by go_num, by rw [show (j : Int) - 1 = (n : Int) - 1 - ((i + 1 : Nat) : Int) by omega], by omega, HS, (HT.out wr rfl).of_block rfl, ?_⟩, by simp [intOf]; omega⟩
      have hU := HU.out wr HG.out
      exact ⟨hU.os, hU.tape, hU.output, hU.size, hU.block⟩
    · have HD : Hid (L = zs.reverse) := HH.out.done (by rw [← HZ.out]; omega)
      go_wp2
      go_end0
      exact ⟨rfl, by rw [← HD.out]; exact HNr.out, HG.out⟩

theorem rev_own (w : World) (base : Nat) (v : Value) (zs : List Int) (h : M.OwnN w base v zs) (hl : zs.length ≤ 1000000) (hb : base ≤ w.heap.size) :
    Calls Try.prog 48 #[v] w fun e w' => e = .returned (.tuple #[]) ∧ M.OwnN w' base v zs.reverse ∧ w.grownBy w' v.ownBlock := by
  rcases h.at with ⟨rfl, rfl⟩ | ⟨g, cap, rfl, hg, hc, hN⟩
  · go_enter Try.func48, Try.ntmps48
    go_wp2
    go_loopw [2, 3] (fun x y wr => x = .int .i64 0 ∧ y = .int .i64 (-1) ∧ wr = w) (fun _ _ _ => 0)
    case atStart => exact ⟨rfl, rfl, rfl⟩
    case round =>
      obtain ⟨rfl, rfl, rfl⟩ := hrel
      go_wp2
      go_end0
      exact ⟨rfl, M.OwnN.nil _ _, World.grownBy.refl _ _⟩
  · refine (rev_at w g cap zs hN hl).mono ?_
    rintro e w' ⟨rfl, hN', hg'⟩
    refine ⟨rfl, ?_, hg'⟩
    have := hN'.own (base := base) hc hg
    rwa [List.length_reverse] at this

theorem M.fnd_none {ms : List M.MkD} {id : Int} (h : M.found ms id = none) : M.fnd ms id = .tuple #[.agg #[.int .i64 0, .int .i64 0, .int .i64 0], .bool false] := by unfold M.fnd; rw [h]; rfl
theorem M.fnd_some {ms : List M.MkD} {id : Int} {m : M.MkD} (h : M.found ms id = some m) : M.fnd ms id = .tuple #[.agg #[.int .i64 m.id, .int .i64 m.level, .int .i64 m.base], .bool true] := by unfold M.fnd; rw [h]; rfl
/-- A mark in a block of its own. -/
structure M.MkBox (W : World) (H : Nat) (m : M.MkD) : Prop where
  c0 : W.cell? ⟨H, 0, none⟩ = some (.int .i64 m.id)
  c1 : W.cell? ⟨H, 1, none⟩ = some (.int .i64 m.level)
  c2 : W.cell? ⟨H, 2, none⟩ = some (.int .i64 m.base)
  fr : ∀ j, W.frozen? ⟨H, j, none⟩ = false
theorem M.MkBox.new {w W : World} {m : M.MkD} (hb : Below (w.alloc (.cells #[.int .i64 m.id, .int .i64 m.level, .int .i64 m.base] 31)).heap.size (w.alloc (.cells #[.int .i64 m.id, .int .i64 m.level, .int .i64 m.base] 31)) W) : M.MkBox W w.heap.size m :=
  ⟨M.bx hb 0 _ rfl, M.bx hb 1 _ rfl, M.bx hb 2 _ rfl, M.bx_free hb⟩
theorem M.MkBox.put {W : World} {H : Nat} {m : M.MkD} (h : M.MkBox W H m) (b : M.MkD) : M.MkBox (((W.setCell ⟨H, 0, none⟩ (.int .i64 b.id)).setCell ⟨H, 1, none⟩ (.int .i64 b.level)).setCell ⟨H, 2, none⟩ (.int .i64 b.base)) H b := by
  obtain ⟨x0, x1, x2⟩ := M.put3 (.int .i64 b.id) (.int .i64 b.level) (.int .i64 b.base) h.c0 h.c1 h.c2
  exact ⟨x0, x1, x2, fun j => by rw [World.frozen?_setCell, World.frozen?_setCell, World.frozen?_setCell]; exact h.fr j⟩
theorem M.MkBox.grown {W W' : World} {H : Nat} {m : M.MkD} {row : Option Nat} (h : M.MkBox W H m) (hg : W.grownBy W' row) (hne : some H ≠ row) : M.MkBox W' H m :=
  ⟨hg.cell h.c0 hne, hg.cell h.c1 hne, hg.cell h.c2 hne, fun j => by rw [World.frozen?_of_block (w := W) (hg.block H (World.block_lt_of_cell? W _ h.c0) hne)]; exact h.fr j⟩
theorem M.OwnN.set3Other {W : World} {base : Nat} {v : Value} {zs : List Int} {H : Nat} (h : M.OwnN W base v zs) (hne : ∀ j, v.ownBlock = some j → j ≠ H) (v0 v1 v2 : Value) : M.OwnN (((W.setCell ⟨H, 0, none⟩ v0).setCell ⟨H, 1, none⟩ v1).setCell ⟨H, 2, none⟩ v2) base v zs := by
  obtain ⟨hl, h0 | ⟨g, cap, cur, hv, hg, hh, hr⟩⟩ := h
  · exact ⟨hl, .inl h0⟩
  · have hn : g ≠ H := hne g (by rw [hv]; rfl)
    refine ⟨hl, .inr ⟨g, cap, cur, hv, hg, ?_, hr⟩⟩
    rw [Below.heap_setCell _ _ _ g (by simp only; omega), Below.heap_setCell _ _ _ g (by simp only; omega), Below.heap_setCell _ _ _ g (by simp only; omega)]
    exact hh
theorem M.oneCellN (z : Int) : ∀ v ∈ [Value.int .i64 z], v.oneCell' = true := by
  intro v hv
  rw [List.mem_singleton] at hv
  rw [hv]; rfl
theorem M.one_z (w : World) (z : Int) (T : TypeId) : ∀ j u, ([Value.int .i64 z])[j]? = some u → (w.alloc (.cells #[.int .i64 z] T)).cell? ((⟨w.heap.size, 0, none⟩ : Addr).add j) = some u := by
  intro j u hu
  rw [Addr.add_lit, Nat.zero_add, World.cell?_alloc_mark]
  simpa using hu

set_option maxRecDepth 100000 in
set_option maxHeartbeats 3200000 in
theorem iChainBy_any (w : World) (a : Option Addr) (len cap : Nat) (ms : List M.MkD) (id : Int) (h : M.Mks w a len cap ms) (hr : M.MarksR ms) :
    Calls Try.prog 32 #[.func (.func 33) #[.slice a len cap] #[], .int .i64 id] w fun e w' => ∃ v, e = .returned v ∧ M.OwnN w' w.heap.size v (M.chain ms id) ∧ Below w.heap.size w w' := by
  obtain ⟨i0, hi, hz0, hz1, hz2⟩ := info_parts Try.infoN
  have HM := M.hidm h
  have HR := M.hidm hr
  have hl60 : len ≤ 60 := by rw [h.1]; exact hr.1
  have HF : Hid (∀ (W : World) (z : Int), Below w.heap.size w W → Calls Try.prog 33 #[.slice a len cap, .int .i64 z] W fun e w' => e = .returned (M.fnd ms z) ∧ Below W.heap.size W w') := fun W z hW => iFind_any W a len cap ms z (HM.out.below hW) HR.out.asc (by omega)
  clear h hr HM
  go_enter Try.func32, Try.ntmps32
  go_wp2_with fail
  refine (HF.out _ id (Below.refl _ _)).mono ?_
  rintro e w1 ⟨rfl, hb1⟩
  have B1 := M.hidm hb1
  clear hb1
  obtain ⟨m0, b0, hm0, hc0⟩ : ∃ (m : M.MkD) (b : Bool), M.fnd ms id = .tuple #[.agg #[.int .i64 m.id, .int .i64 m.level, .int .i64 m.base], .bool b] ∧ ((b = false ∧ M.found ms id = none) ∨ (b = true ∧ M.found ms id = some m ∧ ∃ k : Nat, ms[k]? = some m ∧ k < 61)) := by
    cases hf : M.found ms id with
    | none => exact ⟨M.mz, false, M.fnd_none hf, .inl ⟨rfl, rfl⟩⟩
    | some m =>
      obtain ⟨k, hk, e⟩ := M.found_place hf
      exact ⟨m, true, M.fnd_some hf, .inr ⟨rfl, rfl, k, e, by have := HR.out.1; omega⟩⟩
  rw [hm0]
  have HC0 := M.hidm hc0
  clear hm0 hc0
  have HX : Hid (∀ o, Below w1.heap.size w1 (w1.alloc o)) := fun o => (Below.refl _ _).alloc (Nat.le_refl _) _
  go_wp2
  go_loopg [5, 6, 7] 61 (fun f v p b wr => ∃ (acc : List Int) (cur : Int) (H : Nat) (m : M.MkD) (t : Bool) (F : Nat), F = f ∧ p = .pointer (some ⟨H, 0, none⟩) ∧ b = .bool t ∧ acc.length + F ≤ 61 ∧ w.heap.size ≤ H ∧ Hid ((t = false ∧ M.found ms cur = none) ∨ (t = true ∧ M.found ms cur = some m ∧ ∃ k : Nat, ms[k]? = some m ∧ k < F)) ∧ Hid (M.up ms 61 id = acc ++ M.up ms F cur) ∧ Hid (M.MkBox wr H m) ∧ Hid (∀ j, v.ownBlock = some j → j ≠ H) ∧ Hid (M.OwnN wr w.heap.size v acc) ∧ Hid (Below w.heap.size w wr))
  case atStart => exact ⟨[], id, w1.heap.size, m0, b0, 61, rfl, rfl, rfl, by simp, B1.out.size, HC0, (show _ = _ by simp), M.MkBox.new (Below.refl _ _), (fun j hj => by cases hj), M.OwnN.nil _ _, M.sm B1.out (HX.out _)⟩
  case round =>
    obtain ⟨acc, cur, H, m, t, F, hF, rfl, rfl, hlen, hH, HC, HU, HX, HNE, HO, HBr⟩ := hrel
    cases t
    · have HE : Hid (M.chain ms id = acc.reverse) := by
        show _ = _
        unfold M.chain
        rcases HC.out with ⟨-, hf⟩ | ⟨hf, -⟩
        · rw [HU.out, M.up_none hf, List.append_nil]
        · cases hf
      clear HC HU HX HF
      go_wp2_with fail
      refine (rev_own wr w.heap.size _ acc HO.out (by omega) HBr.out.size).mono ?_
      rintro e w2 ⟨rfl, ho, hg⟩
      have HO2 := M.hidm ho
      have HB2 : Hid (Below w.heap.size w w2) := HBr.out.grown hg HBr.out.size (fun j hj => (World.ownsRow.lt HO.out j hj).1)
      clear ho hg
      go_wp2
      go_ret
      exact ⟨_, rfl, by rw [HE.out]; exact HO2.out, HB2.out⟩
    · obtain ⟨k, hk, hkf, hfm⟩ : ∃ k : Nat, ms[k]? = some m ∧ k < F ∧ M.found ms cur = some m := by
        rcases HC.out with ⟨hf, -⟩ | ⟨-, hf, k, h1, h2⟩
        · cases hf
        · exact ⟨k, h1, h2, hf⟩
      obtain ⟨f', rfl⟩ : ∃ f', F = f' + 1 := ⟨F - 1, by omega⟩
      have HU2 : Hid (M.up ms 61 id = (acc ++ [m.id]) ++ M.up ms f' m.base) := by
        show _ = _
        rw [HU.out, M.up_some hfm, List.append_assoc]; rfl
      obtain ⟨m1, t1, hm1, hc1⟩ : ∃ (m1 : M.MkD) (b : Bool), M.fnd ms m.base = .tuple #[.agg #[.int .i64 m1.id, .int .i64 m1.level, .int .i64 m1.base], .bool b] ∧ ((b = false ∧ M.found ms m.base = none) ∨ (b = true ∧ M.found ms m.base = some m1 ∧ ∃ k : Nat, ms[k]? = some m1 ∧ k < f')) := by
        rcases M.base_ahead HR.out hk with hf | ⟨t, b, h1, h2, hf⟩
        · exact ⟨M.mz, false, M.fnd_none hf, .inl ⟨rfl, hf⟩⟩
        · exact ⟨b, true, M.fnd_some hf, .inr ⟨rfl, hf, t, h2, by omega⟩⟩
      have HF2 : Hid (∀ (W : World), Below w.heap.size w W → Calls Try.prog 33 #[.slice a len cap, .int .i64 m.base] W fun e w' => e = .returned (.tuple #[.agg #[.int .i64 m1.id, .int .i64 m1.level, .int .i64 m1.base], .bool t1]) ∧ Below W.heap.size W w') := fun W hW => by rw [← hm1]; exact HF.out W m.base hW
      have HC1 := M.hidm hc1
      obtain ⟨c0, c1, c2, fr⟩ := HX.out
      have hsz := HBr.out.size
      have hown := HO.out
      unfold M.OwnN at hown
      clear hm1 hc1 hk hkf hfm HC HU HF
      go_wp2_with (at_builtin; refine wpList_append_own _ rfl (.tmp 22) (.tmp 25) 26 rfl w.heap.size 2 i0 (.int .i64 0) 1 8 Try.underlying26 hi hz0 hz1 hz2 rfl (by decide) _ _ _ rfl (World.ownsRow.alloc hown _) ⟨wr.heap.size, 0, none⟩ 1 1 [.int .i64 m.id] rfl rfl (M.one_z _ _ _) ?c2 ?c3 ?c4 ?c5 ?_)
      case c2 => exact M.oneCellN m.id
      case c3 => unfold maxLen; omega
      case c4 => omega
      case c5 => simp; omega
      intro v' w2 hown' hgrow _
      have HO2 : Hid (M.OwnN w2 w.heap.size v' (acc ++ [m.id])) := M.OwnN.more hown'
      have hgall : wr.grownBy w2 _ := ((World.grownBy_alloc wr _ none).but _).trans hgrow
      have HB2 : Hid (Below w.heap.size w w2) := HBr.out.grown hgall HBr.out.size (fun j hj => (World.ownsRow.lt hown j hj).1)
      have HX2 : Hid (M.MkBox w2 H m) := HX.out.grown hgall (fun e => HNE.out H e.symm rfl)
      obtain ⟨d0, d1, d2, dfr⟩ := HX2.out
      clear hown' hgrow hgall hown c0 c1 c2 fr HX HO HNE
      go_wp2_with fail
      have hA : Below w2.heap.size w2 (w2.alloc (.cells #[.int .i64 m.id, .int .i64 m.level, .int .i64 m.base] 31)) := (Below.refl _ _).alloc (Nat.le_refl _) _
      refine (HF2.out _ (M.sm HB2.out hA)).mono ?_
      rintro e w4 ⟨rfl, hb4⟩
      have HB4 := M.hidm (M.sm (M.sm HB2.out hA) hb4)
      have HX4 := M.hidm (M.MkBox.new hb4)
      have HO4 := M.hidm ((HO2.out.below hA).below hb4)
      have HNE4 : Hid (∀ j, v'.ownBlock = some j → j ≠ w2.heap.size) := fun j hj e => by have := (World.ownsRow.lt HO2.out j hj).2; omega
      obtain ⟨e0, e1, e2, efr⟩ := HX4.out
      have HH2 : w.heap.size ≤ w2.heap.size := HB2.out.size
      clear hA hb4 d0 d1 d2 dfr
      go_wp2
      go_roundg f'
      case measure => omega
      case rel => exact ⟨acc ++ [m.id], m.base, w2.heap.size, m1, t1, f', rfl, rfl, rfl, by simp; omega, HH2, HC1, HU2, HX4.out.put m1, HNE4, HO4.out.set3Other HNE4.out _ _ _, M.below_put3 _ _ _ HB4.out HH2⟩
end Go.Proofs.Ytfkadlnfkgheaaa
