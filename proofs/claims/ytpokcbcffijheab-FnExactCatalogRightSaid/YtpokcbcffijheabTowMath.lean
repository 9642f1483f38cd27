/-
  A mark of the towers as data, its cells, rows of marks in memory, and an argument that is a slice of marks, opened.
-/
import Derived.Test.YtpokcbcffijheabOpenFiles
namespace Go.Proofs.Ytpokcbcffijheab
open Go.ChangeShapes Go.WideShapes Go.Deep Go.RowKit

structure M.MkD where
  id : Int
  level : Int
  base : Int

def M.mval (m : M.MkD) : Value := .agg #[.int .i64 m.id, .int .i64 m.level, .int .i64 m.base]
def M.i64 (n : Int) : Prop := -9223372036854775808 ≤ n ∧ n ≤ 9223372036854775807
def M.mok (m : M.MkD) : Prop := M.i64 m.id ∧ M.i64 m.level ∧ M.i64 m.base

/-- The marks lie in a row from a place on. -/
def M.MksAt (w : World) (b off : Nat) (ms : List M.MkD) : Prop :=
  ∀ i (h : i < ms.length), w.cell? ⟨b, off + i * 3, none⟩ = some (.int .i64 ms[i].id) ∧ w.cell? ⟨b, off + i * 3 + 1, none⟩ = some (.int .i64 ms[i].level) ∧ w.cell? ⟨b, off + i * 3 + 2, none⟩ = some (.int .i64 ms[i].base)
/-- A slice of marks. -/
def M.Mks (w : World) (a : Option Addr) (len cap : Nat) (ms : List M.MkD) : Prop :=
  len = ms.length ∧ len ≤ cap ∧ cap ≤ maxLen ∧ (0 < len → ∃ b off, a = some ⟨b, off, none⟩ ∧ M.MksAt w b off ms)
theorem M.MksAt.of_block {w w' : World} {b off : Nat} {ms : List M.MkD} (h : M.MksAt w b off ms) (hb : w'.heap[b]? = w.heap[b]?) : M.MksAt w' b off ms := by
  intro i hi
  obtain ⟨c0, c1, c2⟩ := h i hi
  have e : ∀ o, w'.cell? ⟨b, o, none⟩ = w.cell? ⟨b, o, none⟩ := fun o => World.cell?_of_block (w := w) hb
  exact ⟨(e _).trans c0, (e _).trans c1, (e _).trans c2⟩
theorem M.Mks.below {w w' : World} {a : Option Addr} {len cap : Nat} {ms : List M.MkD} (h : M.Mks w a len cap ms) (hb : Below w.heap.size w w') : M.Mks w' a len cap ms := by
  obtain ⟨h1, h2, h3, h4⟩ := h
  refine ⟨h1, h2, h3, fun hl => ?_⟩
  obtain ⟨b, off, rfl, hf⟩ := h4 hl
  exact ⟨b, off, rfl, hf.of_block (hb.block b (World.block_lt_of_cell? w _ (hf 0 (by omega)).1))⟩
theorem M.Mks.pre {w : World} {a : Option Addr} {len cap k : Nat} {ms : List M.MkD} (h : M.Mks w a len cap ms) (hk : k ≤ len) : M.Mks w a k cap (ms.take k) := by
  obtain ⟨h1, h2, h3, h4⟩ := h
  refine ⟨by rw [List.length_take]; omega, by omega, h3, fun hl => ?_⟩
  obtain ⟨b, off, rfl, hf⟩ := h4 (by omega)
  refine ⟨b, off, rfl, fun i hi => ?_⟩
  rw [List.length_take] at hi
  rw [List.getElem_take]
  exact hf i (by omega)
theorem M.Row.set3 {w : World} {H : Nat} {T : TypeId} {N : Nat} (h : M.Row w H T N) (o : Nat) (v0 v1 v2 : Value) :
    M.Row (((w.setCell ⟨H, o, none⟩ v0).setCell ⟨H, o + 1, none⟩ v1).setCell ⟨H, o + 2, none⟩ v2) H T N := ((h.setCell _ _).setCell _ _).setCell _ _
theorem M.take_snocM {ms : List M.MkD} {k : Nat} {m : M.MkD} (h : ms[k]? = some m) : ms.take (k + 1) = ms.take k ++ [m] := by
  rw [List.take_add_one, h]; rfl
/-- One mark more at the row's end. -/
theorem M.MksAt.push {w : World} {H k : Nat} {T : TypeId} {N : Nat} {gs : List M.MkD} {f : M.MkD} (h : M.MksAt w H 0 gs) (hr : M.Row w H T N) (hg : gs.length = k) (hN : k * 3 + 2 < N) :
    M.MksAt (((w.setCell ⟨H, k * 3, none⟩ (.int .i64 f.id)).setCell ⟨H, k * 3 + 1, none⟩ (.int .i64 f.level)).setCell ⟨H, k * 3 + 2, none⟩ (.int .i64 f.base)) H 0 (gs ++ [f]) := by
  have other : ∀ (W : World) (o o' : Nat) (v : Value), o ≠ o' → (W.setCell ⟨H, o, none⟩ v).cell? ⟨H, o', none⟩ = W.cell? ⟨H, o', none⟩ := fun W o o' v hne => World.cell?_setCell_other _ _ _ _ (by intro e; simp only [Addr.mk.injEq] at e; omega)
  have same : ∀ (W : World) (o : Nat) (v : Value), M.Row W H T N → o < N → (W.setCell ⟨H, o, none⟩ v).cell? ⟨H, o, none⟩ = some v := fun W o v hW ho => by
    obtain ⟨u, hu⟩ := hW.cell ho
    exact World.cell?_setCell_same _ _ _ hu
  intro i hi
  rw [List.length_append, List.length_singleton, hg] at hi
  rw [Nat.zero_add]
  by_cases e : i = k
  · subst e
    have hf : (gs ++ [f])[i]'(by simp; omega) = f := by rw [List.getElem_append_right (by omega)]; simp
    rw [hf]
    refine ⟨?_, ?_, ?_⟩
    · rw [other _ _ _ _ (by omega), other _ _ _ _ (by omega)]
      exact same _ _ _ hr (by omega)
    · rw [other _ _ _ _ (by omega)]
      exact same _ _ _ (hr.setCell _ _) (by omega)
    · exact same _ _ _ ((hr.setCell _ _).setCell _ _) (by omega)
  · have hik : i < gs.length := by omega
    have hf : (gs ++ [f])[i]'(by simp; omega) = gs[i] := List.getElem_append_left hik
    rw [hf]
    have := h i hik
    rw [Nat.zero_add] at this
    obtain ⟨c0, c1, c2⟩ := this
    refine ⟨?_, ?_, ?_⟩
    · rw [other _ _ _ _ (by omega), other _ _ _ _ (by omega), other _ _ _ _ (by omega)]; exact c0
    · rw [other _ _ _ _ (by omega), other _ _ _ _ (by omega), other _ _ _ _ (by omega)]; exact c1
    · rw [other _ _ _ _ (by omega), other _ _ _ _ (by omega), other _ _ _ _ (by omega)]; exact c2

theorem M.bx {w w1 : World} {T : TypeId} {vs : Array Value} (hb : Below (w.alloc (.cells vs T)).heap.size (w.alloc (.cells vs T)) w1) (i : Nat) (v : Value) (h : vs[i]? = some v) : w1.cell? ⟨w.heap.size, i, none⟩ = some v := by
  rw [hb.cell (p := ⟨w.heap.size, i, none⟩) (by simp), World.cell?_alloc_mark]
  simpa using h
theorem M.bx_below {w w1 : World} {o : Obj} (hb : Below (w.alloc o).heap.size (w.alloc o) w1) : Below w.heap.size w w1 :=
  ((Below.refl _ _).alloc (Nat.le_refl _) _).trans (hb.mono (by simp))
theorem M.bx_free {w w1 : World} {T : TypeId} {vs : Array Value} (hb : Below (w.alloc (.cells vs T)).heap.size (w.alloc (.cells vs T)) w1) : ∀ j, w1.frozen? ⟨w.heap.size, j, none⟩ = false := fun j => by
  rw [hb.frozen (p := ⟨w.heap.size, j, none⟩) (by simp)]; exact World.frozen?_alloc_new _ _ _ _
theorem M.put3 {w : World} {H : Nat} {u0 u1 u2 : Value} (v0 v1 v2 : Value) (c0 : w.cell? ⟨H, 0, none⟩ = some u0) (c1 : w.cell? ⟨H, 1, none⟩ = some u1) (c2 : w.cell? ⟨H, 2, none⟩ = some u2) :
    (((w.setCell ⟨H, 0, none⟩ v0).setCell ⟨H, 1, none⟩ v1).setCell ⟨H, 2, none⟩ v2).cell? ⟨H, 0, none⟩ = some v0 ∧ (((w.setCell ⟨H, 0, none⟩ v0).setCell ⟨H, 1, none⟩ v1).setCell ⟨H, 2, none⟩ v2).cell? ⟨H, 1, none⟩ = some v1 ∧ (((w.setCell ⟨H, 0, none⟩ v0).setCell ⟨H, 1, none⟩ v1).setCell ⟨H, 2, none⟩ v2).cell? ⟨H, 2, none⟩ = some v2 := by
  have other : ∀ (W : World) (o o' : Nat) (v : Value), o ≠ o' → (W.setCell ⟨H, o, none⟩ v).cell? ⟨H, o', none⟩ = W.cell? ⟨H, o', none⟩ := fun W o o' v hne => World.cell?_setCell_other _ _ _ _ (by intro e; simp only [Addr.mk.injEq] at e; omega)
  refine ⟨?_, ?_, ?_⟩
  · rw [other _ _ _ _ (by omega), other _ _ _ _ (by omega)]; exact World.cell?_setCell_same _ _ _ c0
  · rw [other _ _ _ _ (by omega)]; exact World.cell?_setCell_same _ _ _ ((other _ _ _ _ (by omega)).trans c1)
  · exact World.cell?_setCell_same _ _ _ ((other _ _ _ _ (by omega)).trans ((other _ _ _ _ (by omega)).trans c2))
theorem M.below_put3 {w W : World} {H : Nat} (v0 v1 v2 : Value) (h : Below w.heap.size w W) (hH : w.heap.size ≤ H) : Below w.heap.size w (((W.setCell ⟨H, 0, none⟩ v0).setCell ⟨H, 1, none⟩ v1).setCell ⟨H, 2, none⟩ v2) :=
  ((h.setCell hH _).setCell hH _).setCell hH _
theorem M.open_marks {H : Type} {enc : TypeId × Value → H} {P : Program} {w : World} {base : Nat} {spare : Nat → Bool} {held : Bool} {t e : TypeId} {f0 f1 f2 : Field} {fuel : Nat} {cs : List Value} {x : DataW H × List MemPlace}
    (ht : P.underlying t = some (.slice e)) (he : P.underlying e = some (.struct #[f0, f1, f2])) (ce : P.cellsOf e = 3)
    (o0 : f0.offset = 0) (o1 : f1.offset = 1) (o2 : f2.offset = 2)
    (c0 : P.cellsOf f0.type = 1) (c1 : P.cellsOf f1.type = 1) (c2 : P.cellsOf f2.type = 1)
    (u0 : P.underlying f0.type = some (.int .i64)) (u1 : P.underlying f1.type = some (.int .i64)) (u2 : P.underlying f2.type = some (.int .i64))
    (h : DataW.trod enc P w base spare held fuel t cs = some x) :
    ∃ (a : Option Addr) (len cap : Nat) (ms : List M.MkD), cs = [.slice a len cap] ∧ M.Mks w a len cap ms ∧ ∀ f ∈ ms, M.mok f := by
  rcases open_slice ht h with ⟨h0, _⟩ | ⟨a, len, cap, m, n, D, Pl, rfl, hb, hl, hm, hmm, rfl, hx⟩
  · exact ⟨none, 0, 0, [], h0, ⟨rfl, Nat.le_refl _, Nat.zero_le _, fun h => absurd h (Nat.lt_irrefl _)⟩, fun f hf => by simp at hf⟩
  have hlm : len ≤ m := by rw [hmm]; split <;> omega
  have each : ∀ i, i < len → ∃ f : M.MkD, w.cell? (a.add (i * 3)) = some (.int .i64 f.id) ∧ w.cell? (a.add (i * 3 + 1)) = some (.int .i64 f.level) ∧ w.cell? (a.add (i * 3 + 2)) = some (.int .i64 f.base) ∧ M.mok f := by
    intro i hi
    obtain ⟨cs', h1, h2⟩ := hx i (by omega)
    rw [ce] at h1
    obtain ⟨_, hlen, hcell⟩ := World.cells?_some h1
    obtain ⟨xs, k, hk, hxy, _, hxl, hf⟩ := DataW.trod_struct he h2
    match xs, hxl, cs', hlen with
    | [y0, y1, y2], _, [v0, v1, v2], _ =>
      have g0 := hf 0 f0 rfl
      have g1 := hf 1 f1 rfl
      have g2 := hf 2 f2 rfl
      simp [o0, o1, o2, c0, c1, c2] at g0 g1 g2
      obtain ⟨x0, e0, _, hx0⟩ := DataW.trod_int u0 g0
      obtain ⟨x1, e1, _, hx1⟩ := DataW.trod_int u1 g1
      obtain ⟨x2, e2, _, hx2⟩ := DataW.trod_int u2 g2
      obtain rfl := List.singleton_inj.1 e0
      obtain rfl := List.singleton_inj.1 e1
      obtain rfl := List.singleton_inj.1 e2
      have r0 := hcell 0 (by omega)
      have r1 := hcell 1 (by omega)
      have r2 := hcell 2 (by omega)
      rw [add_add] at r0 r1 r2
      exact ⟨⟨x0, x1, x2⟩, by simpa using r0, by simpa using r1, by simpa using r2, M.wf_i64 hx0, M.wf_i64 hx1, M.wf_i64 hx2⟩
  have hin : Inhabited M.MkD := ⟨⟨0, 0, 0⟩⟩
  obtain ⟨F, hF⟩ := choose_lt each
  refine ⟨some a, len, cap, (List.range len).map F, rfl, ⟨by simp, hl, hm, fun hpos => ?_⟩, fun f hf => ?_⟩
  · have hs : a.spot = none := by
      have h0 := (hF 0 hpos).1
      simp only [Nat.zero_mul, Addr.add, if_pos] at h0
      unfold World.cell? at h0
      split at h0
      · cases hq : a.spot with
        | none => rfl
        | some q => simp [hq] at h0
      · cases h0
    obtain ⟨b, off, spot⟩ := a
    simp only at hs
    subst hs
    have ad : ∀ q, (⟨b, off, none⟩ : Addr).add q = ⟨b, off + q, none⟩ := fun q => by
      unfold Addr.add
      split
      · next h => subst h; rfl
      · rfl
    refine ⟨b, off, rfl, fun i hi => ?_⟩
    have hi' : i < len := by simpa using hi
    obtain ⟨r0, r1, r2, _⟩ := hF i hi'
    simp only [ad] at r0 r1 r2
    simp only [List.getElem_map, List.getElem_range]
    exact ⟨r0, by simpa [Nat.add_assoc] using r1, by simpa [Nat.add_assoc] using r2⟩
  · obtain ⟨i, hi, rfl⟩ := List.mem_map.1 hf
    exact (hF i (List.mem_range.1 hi)).2.2.2
end Go.Proofs.Ytpokcbcffijheab
