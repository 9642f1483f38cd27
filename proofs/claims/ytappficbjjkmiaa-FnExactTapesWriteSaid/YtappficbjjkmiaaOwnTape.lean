/-
  Rows of tapes that a call owns, with the blocks of each.
-/
import Derived.Test.YtappficbjjkmiaaPart3
import Derived.Test.YtappficbjjkmiaaOwnStrMore
import Derived.Test.YtappficbjjkmiaaMidW
namespace Go.Proofs.Ytappficbjjkmiaa
open Go.RowKit

/-- A tape, and the slice that its blocks lie in, as cells. -/
def M.tcells (p : M.TapeD × Value) : List Value := [.int .i64 p.1.lab, p.2, .int .i64 p.1.syn, .int .i64 p.1.room]
def M.cellsT (ps : List (M.TapeD × Value)) : List Value := ps.flatMap M.tcells
theorem M.cellsT_app (ps qs : List (M.TapeD × Value)) : M.cellsT (ps ++ qs) = M.cellsT ps ++ M.cellsT qs := by simp [M.cellsT]
theorem M.cellsT_one (p : M.TapeD × Value) : M.cellsT [p] = M.tcells p := by simp [M.cellsT]
theorem M.cellsT_len (ps : List (M.TapeD × Value)) : (M.cellsT ps).length = ps.length * 4 := by
  induction ps with
  | nil => rfl
  | cons f gs ih => simp only [M.cellsT, List.flatMap_cons, List.length_append, List.length_cons] at ih ⊢; rw [ih]; simp [M.tcells]; omega
theorem M.cellsT_get : ∀ (ps : List (M.TapeD × Value)) (i : Nat) (h : i < ps.length) (c : Nat), c < 4 → (M.cellsT ps)[i * 4 + c]? = (M.tcells ps[i])[c]?
  | [], i, h, _, _ => absurd h (Nat.not_lt_zero _)
  | f :: gs, 0, _, c, hc => by
    simp only [M.cellsT, List.flatMap_cons, Nat.zero_mul, Nat.zero_add, List.getElem_cons_zero]
    rw [List.getElem?_append_left (by simp [M.tcells]; omega)]
  | f :: gs, i + 1, h, c, hc => by
    simp only [M.cellsT, List.flatMap_cons, List.getElem_cons_succ]
    rw [List.getElem?_append_right (by simp [M.tcells]; omega), show (i + 1) * 4 + c - (M.tcells f).length = i * 4 + c by simp [M.tcells]; omega]
    exact M.cellsT_get gs i (by simpa using h) c hc

/-- The cells of tapes, from the first cell of a block on. -/
def M.PAt (w : World) (g : Nat) (ps : List (M.TapeD × Value)) : Prop := ∀ i p, ps[i]? = some p → w.cell? ⟨g, i * 4, none⟩ = some (.int .i64 p.1.lab) ∧ w.cell? ⟨g, i * 4 + 1, none⟩ = some p.2 ∧ w.cell? ⟨g, i * 4 + 2, none⟩ = some (.int .i64 p.1.syn) ∧ w.cell? ⟨g, i * 4 + 3, none⟩ = some (.int .i64 p.1.room)
theorem M.PAt.of_block {w w' : World} {g : Nat} {ps : List (M.TapeD × Value)} (h : M.PAt w g ps) (hb : w'.heap[g]? = w.heap[g]?) : M.PAt w' g ps := fun i p hp => by
  obtain ⟨h0, h1, h2, h3⟩ := h i p hp
  exact ⟨(World.cell?_of_block (a := ⟨g, i * 4, none⟩) hb).trans h0, (World.cell?_of_block (a := ⟨g, i * 4 + 1, none⟩) hb).trans h1, (World.cell?_of_block (a := ⟨g, i * 4 + 2, none⟩) hb).trans h2, (World.cell?_of_block (a := ⟨g, i * 4 + 3, none⟩) hb).trans h3⟩

theorem M.OwnS.mid {lo hi base : Nat} {w w' : World} {v : Value} {ss : List ByteArray} (h : M.OwnS w base v ss) (hm : M.Mid lo hi w w') (ho : ∀ g, v.ownBlock = some g → g < lo ∨ hi ≤ g) : M.OwnS w' base v ss := by
  obtain ⟨hl, h0 | ⟨g, cap, cur, hv, hg, hh, hr⟩⟩ := h
  · exact ⟨hl, .inl h0⟩
  · exact ⟨hl, .inr ⟨g, cap, cur, hv, hg, by rw [hm.block g (Array.getElem?_eq_some_iff.1 hh).1 (ho g (by rw [hv]; rfl))]; exact hh, hr⟩⟩
/-- The blocks of a tape are the call's own. -/
def M.own1 (w : World) (lo hi : Nat) (p : M.TapeD × Value) : Prop := M.OwnS w lo p.2 p.1.ss ∧ ∀ g, p.2.ownBlock = some g → g < hi
/-- No two tapes share a block. -/
def M.apart (ps : List (M.TapeD × Value)) : Prop := ps.Pairwise fun p q => ∀ g, p.2.ownBlock = some g → q.2.ownBlock ≠ some g
/-- A slice of tapes in a row that is the call's own, as are the blocks of each. -/
structure M.OwnT (w : World) (lo hi : Nat) (v : Value) (ps : List (M.TapeD × Value)) : Prop where
  row : w.ownsRow lo 36 4 v ps.length (M.cellsT ps)
  top : ∀ g, v.ownBlock = some g → g < hi
  each : ∀ p ∈ ps, M.own1 w lo hi p
  apart : M.apart ps

theorem M.row_of {w : World} {g cap lo : Nat} {ps : List (M.TapeD × Value)} (hat : M.PAt w g ps) (hr : M.Row w g 36 (cap * 4)) (hb : lo ≤ g) (hn : ps.length ≤ cap) (hc : cap ≤ maxLen) : w.ownsRow lo 36 4 (.slice (some ⟨g, 0, none⟩) ps.length cap) ps.length (M.cellsT ps) := by
  obtain ⟨cur, hh, hz⟩ := hr
  refine ⟨M.cellsT_len ps, .inr ⟨g, cap, cur, rfl, hb, hh, hn, hc, hz, ?_⟩⟩
  apply List.ext_getElem?
  intro t
  by_cases h : t < ps.length * 4
  · rw [List.getElem?_take_of_lt h]
    have hl2 : t / 4 < ps.length := by omega
    obtain ⟨c0, c1, c2, c3⟩ := hat (t / 4) _ (List.getElem?_eq_getElem hl2)
    have key : ∀ c, c < 4 → cur.toList[t / 4 * 4 + c]? = (M.tcells (ps[t / 4]))[c]? := fun c hc4 => by
      have hcell : w.cell? ⟨g, t / 4 * 4 + c, none⟩ = cur.toList[t / 4 * 4 + c]? := by simp [World.cell?, hh]
      rw [← hcell]
      match c, hc4 with
      | 0, _ => exact c0
      | 1, _ => exact c1
      | 2, _ => exact c2
      | 3, _ => exact c3
    have h1 := key (t % 4) (Nat.mod_lt _ (by decide))
    have h2 := M.cellsT_get ps (t / 4) hl2 (t % 4) (Nat.mod_lt _ (by decide))
    rw [show t / 4 * 4 + t % 4 = t by omega] at h1 h2
    rw [h1, h2]
  · rw [List.getElem?_eq_none (by rw [List.length_take]; exact Nat.le_trans (Nat.min_le_left _ _) (by omega)), List.getElem?_eq_none (by rw [M.cellsT_len]; omega)]
theorem M.pat_of {w : World} {g : Nat} {cur : Array Value} {ps : List (M.TapeD × Value)} (hh : w.heap[g]? = some (.cells cur 36 (0, 0))) (ht : cur.toList.take (ps.length * 4) = M.cellsT ps) : M.PAt w g ps := by
  intro i p hp
  obtain ⟨hi, rfl⟩ := List.getElem?_eq_some_iff.1 hp
  have cell : ∀ c, c < 4 → w.cell? ⟨g, i * 4 + c, none⟩ = (M.tcells ps[i])[c]? := fun c hcc => by
    rw [← M.cellsT_get ps i hi c hcc, ← ht, List.getElem?_take_of_lt (by omega)]
    simp [World.cell?, hh]
  exact ⟨cell 0 (by omega), cell 1 (by omega), cell 2 (by omega), cell 3 (by omega)⟩
theorem M.OwnT.nil (w : World) (lo hi : Nat) : M.OwnT w lo hi (.slice none 0 0) [] := ⟨⟨rfl, .inl ⟨rfl, rfl⟩⟩, (fun g h => by cases h), (fun p h => by simp at h), List.Pairwise.nil⟩
theorem M.OwnT.len {w : World} {lo hi : Nat} {v : Value} {ps : List (M.TapeD × Value)} (h : M.OwnT w lo hi v ps) : ∃ a cap, v = .slice a ps.length cap := by
  obtain ⟨⟨hl, ⟨rfl, h0⟩ | ⟨g, cap, cur, rfl, -⟩⟩, -, -, -⟩ := h
  · exact ⟨none, 0, by rw [h0]⟩
  · exact ⟨_, cap, rfl⟩
theorem M.OwnT.mid {lo hi lo' hi' : Nat} {w w' : World} {v : Value} {ps : List (M.TapeD × Value)} (h : M.OwnT w lo hi v ps) (hm : M.Mid lo' hi' w w') (ho : hi ≤ lo' ∨ hi' ≤ lo) : M.OwnT w' lo hi v ps := by
  obtain ⟨⟨hl, hr⟩, ht, he, ha⟩ := h
  refine ⟨⟨hl, ?_⟩, ht, fun p hp => ⟨(he p hp).1.mid hm (fun g hg => ?_), (he p hp).2⟩, ha⟩
  · rcases hr with h0 | ⟨g, cap, cur, hv, hg, hh, hr⟩
    · exact .inl h0
    · have := ht g (by rw [hv]; rfl)
      exact .inr ⟨g, cap, cur, hv, hg, by rw [hm.block g (Array.getElem?_eq_some_iff.1 hh).1 (by omega)]; exact hh, hr⟩
  · have h1 := (he p hp).2 g hg
    have h2 := (World.ownsRow.lt (he p hp).1 g hg).1
    omega
theorem M.OwnT.below {lo hi : Nat} {w w' : World} {v : Value} {ps : List (M.TapeD × Value)} (h : M.OwnT w lo hi v ps) (hb : Below w.heap.size w w') : M.OwnT w' lo hi v ps := by
  obtain ⟨⟨hl, hr⟩, ht, he, ha⟩ := h
  refine ⟨⟨hl, ?_⟩, ht, fun p hp => ⟨(he p hp).1.below hb, (he p hp).2⟩, ha⟩
  rcases hr with h0 | ⟨g, cap, cur, hv, hg, hh, hr⟩
  · exact .inl h0
  · exact .inr ⟨g, cap, cur, hv, hg, by rw [hb.block g (Array.getElem?_eq_some_iff.1 hh).1]; exact hh, hr⟩
theorem M.OwnT.widen {lo hi lo' hi' : Nat} {w : World} {v : Value} {ps : List (M.TapeD × Value)} (h : M.OwnT w lo hi v ps) (h1 : lo' ≤ lo) (h2 : hi ≤ hi') : M.OwnT w lo' hi' v ps := by
  obtain ⟨⟨hl, hr⟩, ht, he, ha⟩ := h
  refine ⟨⟨hl, ?_⟩, fun g hg => Nat.lt_of_lt_of_le (ht g hg) h2, fun p hp => ⟨(he p hp).1.lower h1, fun g hg => Nat.lt_of_lt_of_le ((he p hp).2 g hg) h2⟩, ha⟩
  rcases hr with h0 | ⟨g, cap, cur, hv, hg, hr⟩
  · exact .inl h0
  · exact .inr ⟨g, cap, cur, hv, Nat.le_trans h1 hg, hr⟩
theorem M.OwnS.noneCap {w : World} {lo n c : Nat} {v : Value} {ss : List ByteArray} {a : Option Addr} (h : M.OwnS w lo v ss) (e : v = .slice a n c) : a = none → c = 0 := by
  intro ha
  subst ha
  obtain ⟨-, ⟨h0, -⟩ | ⟨g, cap, cur, h0, -⟩⟩ := h
  · rw [h0] at e; cases e; rfl
  · rw [h0] at e; cases e
/-- As tapes that are read. -/
theorem M.OwnT.tps {lo hi : Nat} {w : World} {v : Value} {ps : List (M.TapeD × Value)} (h : M.OwnT w lo hi v ps) : ∃ a cap, v = .slice a ps.length cap ∧ M.Tps w a ps.length cap (ps.map Prod.fst) := by
  obtain ⟨⟨hl, ⟨rfl, h0⟩ | ⟨g, cap, cur, rfl, hg, hh, hn, hc, hz, htk⟩⟩, ht, he, ha⟩ := h
  · exact ⟨none, 0, by rw [h0], by simp, by omega, Nat.zero_le _, fun h => by omega⟩
  · refine ⟨_, cap, rfl, by simp, hn, hc, fun _ => ⟨g, 0, rfl, fun i hi => ?_⟩⟩
    rw [List.length_map] at hi
    obtain ⟨c0, c1, c2, c3⟩ := M.pat_of hh htk i _ (List.getElem?_eq_getElem hi)
    obtain ⟨a', cap', e, hs⟩ := (he ps[i] (List.getElem_mem hi)).1.strs
    rw [List.getElem_map, Nat.zero_add]
    exact ⟨c0, ⟨a', _, cap', by rw [← e]; exact c1, hs, M.OwnS.noneCap (v := (ps[i]).2) (he ps[i] (List.getElem_mem hi)).1 e⟩, c2, c3⟩
/-- No tape's blocks lie where the tapes lie. -/
theorem M.OwnT.notIn {lo hi : Nat} {w : World} {v : Value} {ps : List (M.TapeD × Value)} (h : M.OwnT w lo hi v ps) {p : M.TapeD × Value} (hp : p ∈ ps) {g : Nat} (hv : v.ownBlock = some g) : p.2.ownBlock ≠ some g := by
  obtain ⟨⟨hl, ⟨rfl, h0⟩ | ⟨g', cap, cur, rfl, hg, hh, -⟩⟩, ht, he, ha⟩ := h
  · cases hv
  · obtain rfl := Option.some.inj hv
    obtain ⟨-, ⟨e, -⟩ | ⟨b, cb, cu, e, -, hb, -⟩⟩ := (he p hp).1
    · rw [e]; intro h; cases h
    · rw [e]
      intro h
      obtain rfl := Option.some.inj h
      rw [hh] at hb
      have := Option.some.inj hb
      simp at this
theorem M.oneCellT {lo hi : Nat} {w : World} {p : M.TapeD × Value} (h : M.own1 w lo hi p) : ∀ v ∈ M.tcells p, v.oneCell' = true := by
  intro v hv
  simp [M.tcells] at hv
  rcases hv with rfl | rfl | rfl | rfl
  · rfl
  · obtain ⟨a, c, e⟩ := h.1.len
    rw [e]; rfl
  · rfl
  · rfl
theorem M.OwnT.at_slice {w : World} {lo hi : Nat} {a : Option Addr} {n c : Nat} {ps : List (M.TapeD × Value)} {ts : List M.TapeD} (h : M.OwnT w lo hi (.slice a n c) ps) (hp : ps.map Prod.fst = ts) : M.Tps w a n c ts := by
  obtain ⟨a', c', e, hv⟩ := h.tps
  cases e
  rwa [hp] at hv
end Go.Proofs.Ytappficbjjkmiaa
