/-
  Rows of dumps in memory, and those that a call owns, with the parts of each.
-/
import Derived.Test.YtpokcbcffijheabDumpMath
import Derived.Test.YtpokcbcffijheabOwnPtMid
namespace Go.Proofs.Ytpokcbcffijheab
open Go.RowKit

/-- Values stored one behind the other. -/
def M.putL (g : Nat) : Nat → List Value → World → World
  | _, [], w => w
  | o, v :: vs, w => M.putL g (o + 1) vs (w.setCell ⟨g, o, none⟩ v)
theorem M.cox {W : World} {H i j : Nat} {v : Value} (h : i ≠ j) : (W.setCell ⟨H, i, none⟩ v).cell? ⟨H, j, none⟩ = W.cell? ⟨H, j, none⟩ := World.cell?_setCell_other _ _ _ _ (by intro e; simp only [Addr.mk.injEq] at e; omega)
theorem M.putL_other {g i : Nat} : ∀ (vs : List Value) (o : Nat) (w : World), (i < o ∨ o + vs.length ≤ i) → (M.putL g o vs w).cell? ⟨g, i, none⟩ = w.cell? ⟨g, i, none⟩
  | [], _, _, _ => rfl
  | v :: vs, o, w, h => by
    simp only [List.length_cons] at h
    rw [M.putL, M.putL_other vs (o + 1) _ (by omega), M.cox (by omega)]
theorem M.putL_same {g : Nat} : ∀ (vs : List Value) (o j : Nat) (w : World), j < vs.length → (∃ x, w.cell? ⟨g, o + j, none⟩ = some x) → (M.putL g o vs w).cell? ⟨g, o + j, none⟩ = vs[j]?
  | [], _, _, _, h, _ => absurd h (Nat.not_lt_zero _)
  | v :: vs, o, 0, w, _, ⟨x, hx⟩ => by
    rw [M.putL, M.putL_other vs (o + 1) _ (by omega), Nat.add_zero]
    rw [Nat.add_zero] at hx
    rw [World.cell?_setCell_same _ _ _ hx]
    rfl
  | v :: vs, o, j + 1, w, h, ⟨x, hx⟩ => by
    simp only [List.length_cons] at h
    rw [M.putL, show o + (j + 1) = o + 1 + j by omega]
    rw [show o + (j + 1) = o + 1 + j by omega] at hx
    rw [M.putL_same vs (o + 1) j _ (by omega) ⟨x, by rw [M.cox (by omega)]; exact hx⟩]
    rfl
theorem M.putL_row {g N : Nat} {T : TypeId} : ∀ (vs : List Value) (o : Nat) {w : World}, M.Row w g T N → M.Row (M.putL g o vs w) g T N
  | [], _, _, h => h
  | _ :: vs, o, _, h => M.putL_row vs (o + 1) (h.setCell _ _)
theorem M.putL_below {g lo : Nat} {w0 : World} : ∀ (vs : List Value) (o : Nat) {w : World}, Below lo w0 w → lo ≤ g → Below lo w0 (M.putL g o vs w)
  | [], _, _, h, _ => h
  | _ :: vs, o, _, h, hg => M.putL_below vs (o + 1) (h.setCell hg _) hg
theorem M.putL_pt {g lo : Nat} {u : Value} {ps : List M.PartD} (hu : ∀ b, u.ownBlock = some b → b ≠ g) : ∀ (vs : List Value) (o : Nat) {w : World}, M.OwnPt w lo u ps → M.OwnPt (M.putL g o vs w) lo u ps
  | [], _, _, h => h
  | v :: vs, o, _, h => M.putL_pt hu vs (o + 1) (h.setAt hu o v)
theorem M.putL_size {g : Nat} : ∀ (vs : List Value) (o : Nat) (w : World), (M.putL g o vs w).heap.size = w.heap.size
  | [], _, _ => rfl
  | v :: vs, o, w => by rw [M.putL, M.putL_size vs (o + 1)]; simp [World.setCell]
theorem M.putL9 (w : World) (g o : Nat) (v0 v1 v2 v3 v4 v5 v6 v7 v8 : Value) : M.putL g o [v0, v1, v2, v3, v4, v5, v6, v7, v8] w = (((((((((w.setCell ⟨g, o, none⟩ v0).setCell ⟨g, o + 1, none⟩ v1).setCell ⟨g, o + 2, none⟩ v2).setCell ⟨g, o + 3, none⟩ v3).setCell ⟨g, o + 4, none⟩ v4).setCell ⟨g, o + 5, none⟩ v5).setCell ⟨g, o + 6, none⟩ v6).setCell ⟨g, o + 7, none⟩ v7).setCell ⟨g, o + 8, none⟩ v8) := rfl

theorem M.OwnPt.at_sl {w : World} {base n c : Nat} {a : Option Addr} {ms : List M.PartD} (h : M.OwnPt w base (.slice a n c) ms) : M.Pts w a n c ms := by
  obtain ⟨a', c', e, hv⟩ := h.pts
  cases e
  exact hv

/-- A dump, and the slice that its parts lie in, as cells. -/
def M.dcells (p : M.DumpD × Value) : List Value := [.int .i64 p.1.id, .string p.1.host, .int .i64 p.1.run, .int .i64 p.1.lev, .int .i64 p.1.base, .int .i64 p.1.day, .int .i64 p.1.many, .int .i64 p.1.crc, p.2]
theorem M.dcells_len (p : M.DumpD × Value) : (M.dcells p).length = 9 := rfl
def M.cellsD (ps : List (M.DumpD × Value)) : List Value := ps.flatMap M.dcells
theorem M.cellsD_app (ps qs : List (M.DumpD × Value)) : M.cellsD (ps ++ qs) = M.cellsD ps ++ M.cellsD qs := by simp [M.cellsD]
theorem M.cellsD_one (p : M.DumpD × Value) : M.cellsD [p] = M.dcells p := by simp [M.cellsD]
theorem M.cellsD_len (ps : List (M.DumpD × Value)) : (M.cellsD ps).length = ps.length * 9 := by
  induction ps with
  | nil => rfl
  | cons f gs ih => simp only [M.cellsD, List.flatMap_cons, List.length_append, List.length_cons] at ih ⊢; rw [ih, M.dcells_len]; omega
theorem M.cellsD_get : ∀ (ps : List (M.DumpD × Value)) (i : Nat) (h : i < ps.length) (c : Nat), c < 9 → (M.cellsD ps)[i * 9 + c]? = (M.dcells ps[i])[c]?
  | [], i, h, _, _ => absurd h (Nat.not_lt_zero _)
  | f :: gs, 0, _, c, hc => by
    simp only [M.cellsD, List.flatMap_cons, Nat.zero_mul, Nat.zero_add, List.getElem_cons_zero]
    rw [List.getElem?_append_left (by rw [M.dcells_len]; omega)]
  | f :: gs, i + 1, h, c, hc => by
    simp only [M.cellsD, List.flatMap_cons, List.getElem_cons_succ]
    rw [List.getElem?_append_right (by rw [M.dcells_len]; omega), show (i + 1) * 9 + c - (M.dcells f).length = i * 9 + c by rw [M.dcells_len]; omega]
    exact M.cellsD_get gs i (by simpa using h) c hc
/-- The cells of dumps, from the first cell of a block on. -/
def M.DAt (w : World) (g : Nat) (ps : List (M.DumpD × Value)) : Prop := ∀ i p, ps[i]? = some p → ∀ j, j < 9 → w.cell? ⟨g, i * 9 + j, none⟩ = (M.dcells p)[j]?
theorem M.DAt.of_block {w w' : World} {g : Nat} {ps : List (M.DumpD × Value)} (h : M.DAt w g ps) (hb : w'.heap[g]? = w.heap[g]?) : M.DAt w' g ps := fun i p hp j hj =>
  (World.cell?_of_block (a := ⟨g, i * 9 + j, none⟩) hb).trans (h i p hp j hj)
theorem M.drow_of {w : World} {g cap lo : Nat} {ps : List (M.DumpD × Value)} (hat : M.DAt w g ps) (hr : M.Row w g 36 (cap * 9)) (hb : lo ≤ g) (hn : ps.length ≤ cap) (hc : cap ≤ maxLen) : w.ownsRow lo 36 9 (.slice (some ⟨g, 0, none⟩) ps.length cap) ps.length (M.cellsD ps) := by
  obtain ⟨cur, hh, hz⟩ := hr
  refine ⟨M.cellsD_len ps, .inr ⟨g, cap, cur, rfl, hb, hh, hn, hc, hz, ?_⟩⟩
  apply List.ext_getElem?
  intro t
  by_cases h : t < ps.length * 9
  · rw [List.getElem?_take_of_lt h]
    have hl2 : t / 9 < ps.length := by omega
    have h1 := hat (t / 9) _ (List.getElem?_eq_getElem hl2) (t % 9) (Nat.mod_lt _ (by decide))
    have h2 := M.cellsD_get ps (t / 9) hl2 (t % 9) (Nat.mod_lt _ (by decide))
    rw [show t / 9 * 9 + t % 9 = t by omega] at h1 h2
    rw [h2, ← h1]
    simp [World.cell?, hh]
  · rw [List.getElem?_eq_none (by rw [List.length_take]; exact Nat.le_trans (Nat.min_le_left _ _) (by omega)), List.getElem?_eq_none (by rw [M.cellsD_len]; omega)]
theorem M.dat_of {w : World} {g : Nat} {cur : Array Value} {ps : List (M.DumpD × Value)} (hh : w.heap[g]? = some (.cells cur 36 (0, 0))) (ht : cur.toList.take (ps.length * 9) = M.cellsD ps) : M.DAt w g ps := by
  intro i p hp j hj
  obtain ⟨hi, rfl⟩ := List.getElem?_eq_some_iff.1 hp
  rw [← M.cellsD_get ps i hi j hj, ← ht, List.getElem?_take_of_lt (by omega)]
  simp [World.cell?, hh]
/-- The cells of one dump more, each stored. -/
theorem M.DAt.push {w : World} {g k N : Nat} {T : TypeId} {ps : List (M.DumpD × Value)} {p : M.DumpD × Value} (h : M.DAt w g ps) (hr : M.Row w g T N) (hk : ps.length = k) (hN : k * 9 + 9 ≤ N) : M.DAt (M.putL g (k * 9) (M.dcells p) w) g (ps ++ [p]) := by
  intro i q hq j hj
  by_cases e : i = k
  · subst e
    rw [← hk] at hq
    simp at hq
    subst hq
    exact M.putL_same _ _ _ _ (by rw [M.dcells_len]; exact hj) (hr.cell (by omega))
  · have hi : i < (ps ++ [p]).length := (List.getElem?_eq_some_iff.1 hq).1
    rw [List.length_append] at hi
    simp at hi
    have hi' : i < ps.length := by omega
    rw [List.getElem?_append_left hi'] at hq
    rw [M.putL_other _ _ _ (by left; omega)]
    exact h i q hq j hj

/-- The parts of a dump are the call's own. -/
def M.ownd1 (w : World) (lo hi : Nat) (p : M.DumpD × Value) : Prop := M.OwnPt w lo p.2 p.1.ps ∧ ∀ g, p.2.ownBlock = some g → g < hi
/-- No two dumps share parts. -/
def M.apartD (ps : List (M.DumpD × Value)) : Prop := ps.Pairwise fun p q => ∀ g, p.2.ownBlock = some g → q.2.ownBlock ≠ some g
/-- A slice of dumps in a row that is the call's own, as are the parts of each. -/
structure M.OwnD (w : World) (lo hi : Nat) (v : Value) (ps : List (M.DumpD × Value)) : Prop where
  row : w.ownsRow lo 36 9 v ps.length (M.cellsD ps)
  top : ∀ g, v.ownBlock = some g → g < hi
  each : ∀ p ∈ ps, M.ownd1 w lo hi p
  apart : M.apartD ps
theorem M.OwnD.nil (w : World) (lo hi : Nat) : M.OwnD w lo hi (.slice none 0 0) [] := ⟨⟨rfl, .inl ⟨rfl, rfl⟩⟩, (fun g h => by cases h), (fun p h => by simp at h), List.Pairwise.nil⟩
theorem M.OwnD.len {w : World} {lo hi : Nat} {v : Value} {ps : List (M.DumpD × Value)} (h : M.OwnD w lo hi v ps) : ∃ a cap, v = .slice a ps.length cap := by
  obtain ⟨⟨hl, ⟨rfl, h0⟩ | ⟨g, cap, cur, rfl, -⟩⟩, -, -, -⟩ := h
  · exact ⟨none, 0, by rw [h0]⟩
  · exact ⟨_, cap, rfl⟩
theorem M.OwnD.mid {lo hi lo' hi' : Nat} {w w' : World} {v : Value} {ps : List (M.DumpD × Value)} (h : M.OwnD w lo hi v ps) (hm : M.Mid lo' hi' w w') (ho : hi ≤ lo' ∨ hi' ≤ lo) : M.OwnD w' lo hi v ps := by
  obtain ⟨⟨hl, hr⟩, ht, he, ha⟩ := h
  refine ⟨⟨hl, ?_⟩, ht, fun p hp => ⟨(he p hp).1.mid hm (fun g hg => ?_), (he p hp).2⟩, ha⟩
  · rcases hr with h0 | ⟨g, cap, cur, hv, hg, hh, hr⟩
    · exact .inl h0
    · have := ht g (by rw [hv]; rfl)
      exact .inr ⟨g, cap, cur, hv, hg, by rw [hm.block g (Array.getElem?_eq_some_iff.1 hh).1 (by omega)]; exact hh, hr⟩
  · have h1 := (he p hp).2 g hg
    have h2 := (World.ownsRow.lt (he p hp).1 g hg).1
    omega
theorem M.OwnD.below {lo hi : Nat} {w w' : World} {v : Value} {ps : List (M.DumpD × Value)} (h : M.OwnD w lo hi v ps) (hb : Below w.heap.size w w') : M.OwnD w' lo hi v ps := by
  obtain ⟨⟨hl, hr⟩, ht, he, ha⟩ := h
  refine ⟨⟨hl, ?_⟩, ht, fun p hp => ⟨(he p hp).1.below hb, (he p hp).2⟩, ha⟩
  rcases hr with h0 | ⟨g, cap, cur, hv, hg, hh, hr⟩
  · exact .inl h0
  · exact .inr ⟨g, cap, cur, hv, hg, by rw [hb.block g (Array.getElem?_eq_some_iff.1 hh).1]; exact hh, hr⟩
theorem M.OwnD.widen {lo hi lo' hi' : Nat} {w : World} {v : Value} {ps : List (M.DumpD × Value)} (h : M.OwnD w lo hi v ps) (h1 : lo' ≤ lo) (h2 : hi ≤ hi') : M.OwnD w lo' hi' v ps := by
  obtain ⟨⟨hl, hr⟩, ht, he, ha⟩ := h
  refine ⟨⟨hl, ?_⟩, fun g hg => Nat.lt_of_lt_of_le (ht g hg) h2, fun p hp => ⟨(he p hp).1.down h1, fun g hg => Nat.lt_of_lt_of_le ((he p hp).2 g hg) h2⟩, ha⟩
  rcases hr with h0 | ⟨g, cap, cur, hv, hg, hr⟩
  · exact .inl h0
  · exact .inr ⟨g, cap, cur, hv, Nat.le_trans h1 hg, hr⟩
theorem M.OwnD.lenN {w : World} {lo hi n : Nat} {v : Value} {qs : List (M.DumpD × Value)} (h : M.OwnD w lo hi v qs) (hn : qs.length = n) : ∃ a c, v = .slice a n c := by
  obtain ⟨a, c, e⟩ := h.len
  exact ⟨a, c, by rw [← hn]; exact e⟩

/-- A dump in memory, from a place on. -/
def M.DpAt (w : World) (b off : Nat) (d : M.DumpD) : Prop :=
  (w.cell? ⟨b, off, none⟩ = some (.int .i64 d.id) ∧ w.cell? ⟨b, off + 1, none⟩ = some (.string d.host) ∧ w.cell? ⟨b, off + 2, none⟩ = some (.int .i64 d.run) ∧ w.cell? ⟨b, off + 3, none⟩ = some (.int .i64 d.lev) ∧ w.cell? ⟨b, off + 4, none⟩ = some (.int .i64 d.base) ∧ w.cell? ⟨b, off + 5, none⟩ = some (.int .i64 d.day) ∧ w.cell? ⟨b, off + 6, none⟩ = some (.int .i64 d.many) ∧ w.cell? ⟨b, off + 7, none⟩ = some (.int .i64 d.crc)) ∧ (∃ a n c, w.cell? ⟨b, off + 8, none⟩ = some (.slice a n c) ∧ M.Pts w a n c d.ps)
/-- A slice of dumps. -/
def M.Dps (w : World) (a : Option Addr) (len cap : Nat) (ds : List M.DumpD) : Prop :=
  len = ds.length ∧ len ≤ cap ∧ cap ≤ maxLen ∧ (0 < len → ∃ b off, a = some ⟨b, off, none⟩ ∧ ∀ i (h : i < ds.length), M.DpAt w b (off + i * 9) ds[i])
theorem M.DpAt.below {w w' : World} {b off : Nat} {d : M.DumpD} (h : M.DpAt w b off d) (hb : Below w.heap.size w w') : M.DpAt w' b off d := by
  obtain ⟨⟨h0, h1, h2, h3, h4, h5, h6, h7⟩, a, n, c, h8, hp⟩ := h
  have hB := hb.block b (World.block_lt_of_cell? w _ h0)
  have key : ∀ {i : Nat} {v : Value}, w.cell? ⟨b, i, none⟩ = some v → w'.cell? ⟨b, i, none⟩ = some v := fun {i v} h => (World.cell?_of_block (a := ⟨b, i, none⟩) hB).trans h
  exact ⟨⟨key h0, key h1, key h2, key h3, key h4, key h5, key h6, key h7⟩, a, n, c, key h8, hp.below hb⟩
theorem M.Dps.below {w w' : World} {a : Option Addr} {len cap : Nat} {ds : List M.DumpD} (h : M.Dps w a len cap ds) (hb : Below w.heap.size w w') : M.Dps w' a len cap ds := by
  obtain ⟨h1, h2, h3, h4⟩ := h
  refine ⟨h1, h2, h3, fun hl => ?_⟩
  obtain ⟨b, off, rfl, hf⟩ := h4 hl
  exact ⟨b, off, rfl, fun i hi => (hf i hi).below hb⟩
theorem M.Dps.max {w : World} {a : Option Addr} {len cap : Nat} {ds : List M.DumpD} (h : M.Dps w a len cap ds) : len ≤ 9223372036854775807 := by
  obtain ⟨_, h1, h2, _⟩ := h; unfold maxLen at h2; omega
/-- One dump of a slice. -/
theorem M.Dps.at {w : World} {a : Option Addr} {len cap k : Nat} {ds : List M.DumpD} (h : M.Dps w a len cap ds) (hk : k < len) : ∃ b off d, a = some ⟨b, off, none⟩ ∧ ds[k]? = some d ∧ M.DpAt w b (off + k * 9) d := by
  obtain ⟨h1, -, -, h4⟩ := h
  obtain ⟨b, off, rfl, hf⟩ := h4 (by omega)
  exact ⟨b, off, ds[k]'(by omega), rfl, List.getElem?_eq_getElem (by omega), hf k (by omega)⟩
/-- As dumps that are read. -/
theorem M.OwnD.dps {lo hi : Nat} {w : World} {v : Value} {ps : List (M.DumpD × Value)} (h : M.OwnD w lo hi v ps) : ∃ a cap, v = .slice a ps.length cap ∧ M.Dps w a ps.length cap (ps.map Prod.fst) := by
  obtain ⟨⟨hl, ⟨rfl, h0⟩ | ⟨g, cap, cur, rfl, hg, hh, hn, hc, hz, htk⟩⟩, ht, he, ha⟩ := h
  · exact ⟨none, 0, by rw [h0], by simp, by omega, Nat.zero_le _, fun h => by omega⟩
  · refine ⟨_, cap, rfl, by simp, hn, hc, fun _ => ⟨g, 0, rfl, fun i hi => ?_⟩⟩
    rw [List.length_map] at hi
    have hc := M.dat_of hh htk i _ (List.getElem?_eq_getElem hi)
    obtain ⟨a', cap', e, hs⟩ := (he ps[i] (List.getElem_mem hi)).1.pts
    rw [List.getElem_map, Nat.zero_add]
    exact ⟨⟨hc 0 (by omega), hc 1 (by omega), hc 2 (by omega), hc 3 (by omega), hc 4 (by omega), hc 5 (by omega), hc 6 (by omega), hc 7 (by omega)⟩, a', _, cap', by rw [← e]; exact hc 8 (by omega), hs⟩
theorem M.OwnD.at_slice {w : World} {lo hi : Nat} {a : Option Addr} {n c : Nat} {ps : List (M.DumpD × Value)} {ds : List M.DumpD} (h : M.OwnD w lo hi (.slice a n c) ps) (hp : ps.map Prod.fst = ds) : M.Dps w a n c ds := by
  obtain ⟨a', c', e, hv⟩ := h.dps
  cases e
  rwa [hp] at hv
theorem M.apartD_snoc {ps : List (M.DumpD × Value)} {p : M.DumpD × Value} (h : M.apartD ps) (hp : ∀ q ∈ ps, ∀ g, q.2.ownBlock = some g → p.2.ownBlock ≠ some g) : M.apartD (ps ++ [p]) := by
  unfold M.apartD
  rw [List.pairwise_append]
  refine ⟨h, by simp, fun a ha b hb => ?_⟩
  obtain rfl := List.mem_singleton.1 hb
  exact hp a ha
/-- Dumps whose parts are the call's own, above a place. -/
def M.ownAllD (w : World) (lo : Nat) (ps : List (M.DumpD × Value)) : Prop := (∀ p ∈ ps, M.ownd1 w lo w.heap.size p) ∧ M.apartD ps
theorem M.ownAllD.below {w w' : World} {lo : Nat} {ps : List (M.DumpD × Value)} (h : M.ownAllD w lo ps) (hb : Below w.heap.size w w') : M.ownAllD w' lo ps :=
  ⟨fun p hp => ⟨(h.1 p hp).1.below hb, fun g hg => Nat.lt_of_lt_of_le ((h.1 p hp).2 g hg) hb.size⟩, h.2⟩
theorem M.ownAllD.put {w : World} {lo H o : Nat} {ps : List (M.DumpD × Value)} (h : M.ownAllD w lo ps) (hH : H < lo) (vs : List Value) : M.ownAllD (M.putL H o vs w) lo ps :=
  ⟨fun p hp => ⟨M.putL_pt (fun b hb => by have := (World.ownsRow.lt (h.1 p hp).1 b hb).1; omega) vs o (h.1 p hp).1, fun g hg => by rw [M.putL_size]; exact (h.1 p hp).2 g hg⟩, h.2⟩
theorem M.ownAllD.snoc {w : World} {lo : Nat} {ps : List (M.DumpD × Value)} {p : M.DumpD × Value} (h : M.ownAllD w lo ps) (ho : M.OwnPt w lo p.2 p.1.ps) (hn : ∀ q ∈ ps, ∀ g, q.2.ownBlock = some g → p.2.ownBlock ≠ some g) : M.ownAllD w lo (ps ++ [p]) :=
  ⟨fun q hq => by
    rcases List.mem_append.1 hq with h1 | h1
    · exact h.1 q h1
    · obtain rfl := List.mem_singleton.1 h1
      exact ⟨ho, fun g hg => (World.ownsRow.lt ho g hg).2⟩, M.apartD_snoc h.2 hn⟩
/-- How many parts all dumps have, and bytes of their hosts. -/
def M.dln (ds : List M.DumpD) : Nat := (ds.map fun d => d.ps.length + d.host.size).sum
theorem M.dln_app (ts us : List M.DumpD) : M.dln (ts ++ us) = M.dln ts + M.dln us := by simp [M.dln]
theorem M.dln_one (t : M.DumpD) : M.dln [t] = t.ps.length + t.host.size := by simp [M.dln]
theorem M.take_snocX {α : Type} {l : List α} {k : Nat} {x : α} (h : l[k]? = some x) : l.take (k + 1) = l.take k ++ [x] := by
  rw [List.take_add_one, h]; rfl
theorem M.dln_take {ts : List M.DumpD} {k : Nat} {t : M.DumpD} (h : ts[k]? = some t) : M.dln (ts.take (k + 1)) = M.dln (ts.take k) + (t.ps.length + t.host.size) := by
  rw [M.take_snocX h, M.dln_app, M.dln_one]
theorem M.dln_mem {ts : List M.DumpD} {k : Nat} {t : M.DumpD} (h : ts[k]? = some t) : t.ps.length + t.host.size ≤ M.dln ts := by
  have h1 := M.dln_take h
  have h2 : M.dln ts = M.dln (ts.take (k + 1)) + M.dln (ts.drop (k + 1)) := by rw [← M.dln_app, List.take_append_drop]
  omega
end Go.Proofs.Ytpokcbcffijheab
