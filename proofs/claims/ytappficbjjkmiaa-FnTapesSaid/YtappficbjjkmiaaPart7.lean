/-
  Rows of tapes that a call owns, with the blocks of each.
-/
import Derived.Test.YtappficbjjkmiaaPart6
import Derived.Test.YtappficbjjkmiaaOwnStrMore
import Derived.Test.YtappficbjjkmiaaMidW
import Derived.Test.YtappficbjjkmiaaPart4
namespace Go.Proofs.Ytappficbjjkmiaa
open Go.RowKit

/-- A tape, and the slice that its blocks lie in, as cells. -/
def M.tcells (p : M.TapeD × Value) : List Value := [.int .i64 p.1.lab, p.2, .int .i64 p.1.syn, .int .i64 p.1.room]
def M.cellsT (ps : List (M.TapeD × Value)) : List Value := ps.flatMap M.tcells
theorem M.cellsT_app (ps qs : List (M.TapeD × Value)) : M.cellsT (ps ++ qs) = M.cellsT ps ++ M.cellsT qs := by simp [M.cellsT]
theorem M.cellsT_one (p : M.TapeD × Value) : M.cellsT [p] = M.tcells p := by simp [M.cellsT]
theorem M.cellsT_len (ps : List (M.TapeD × Value)) : (M.cellsT ps).length = ps.length * 4 := by
  induction ps with
  | nil => rfl
  | cons f gs ih => simp only [M.cellsT, List.flatMap_cons, List.length_append, List.length_cons] at ih ⊢; rw [ih]; simp [M.tcells]; omega
theorem M.cellsT_get : ∀ (ps : List (M.TapeD × Value)) (i : Nat) (h : i < ps.length) (c : Nat), c < 4 → (M.cellsT ps)[i * 4 + c]? = (M.tcells ps[i])[c]?
  | [], i, h, _, _ => absurd h (Nat.not_lt_zero _)
  | f :: gs, 0, _, c, hc => by
    simp only [M.cellsT, List.flatMap_cons, Nat.zero_mul, Nat.zero_add, List.getElem_cons_zero]
    rw [List.getElem?_append_left (by simp [M.tcells]; omega)]
  | f :: gs, i + 1, h, c, hc => by
    simp only [M.cellsT, List.flatMap_cons, List.getElem_cons_succ]
    rw [List.getElem?_append_right (by simp [M.tcells]; omega), show (i + 1) * 4 + c - (M.tcells f).length = i * 4 + c by simp [M.tcells]; omega]
    exact M.cellsT_get gs i (by simpa using h) c hc

/-- The cells of tapes, from the first cell of a block on. -/
def M.PAt (w : World) (g : Nat) (ps : List (M.TapeD × Value)) : Prop := ∀ i p, ps[i]? = some p → w.cell? ⟨g, i * 4, none⟩ = some (.int .i64 p.1.lab) ∧ w.cell? ⟨g, i * 4 + 1, none⟩ = some p.2 ∧ w.cell? ⟨g, i * 4 + 2, none⟩ = some (.int .i64 p.1.syn) ∧ w.cell? ⟨g, i * 4 + 3, none⟩ = some (.int .i64 p.1.room)
theorem M.PAt.of_block {w w' : World} {g : Nat} {ps : List (M.TapeD × Value)} (h : M.PAt w g ps) (hb : w'.heap[g]? = w.heap[g]?) : M.PAt w' g ps := fun i p hp => by
  obtain ⟨h0, h1, h2, h3⟩ := h i p hp
  exact ⟨(World.cell?_of_block (a := ⟨g, i * 4, none⟩) hb).trans h0, (World.cell?_of_block (a := ⟨g, i * 4 + 1, none⟩) hb).trans h1, (World.cell?_of_block (a := ⟨g, i * 4 + 2, none⟩) hb).trans h2, (World.cell?_of_block (a := ⟨g, i * 4 + 3, none⟩) hb).trans h3⟩

theorem M.OwnS.mid {lo hi base : Nat} {w w' : World} {v : Value} {ss : List ByteArray} (h : M.OwnS w base v ss) (hm : M.Mid lo hi w w') (ho : ∀ g, v.ownBlock = some g → g < lo ∨ hi ≤ g) : M.OwnS w' base v ss := by
  obtain ⟨hl, h0 | ⟨g, cap, cur, hv, hg, hh, hr⟩⟩ := h
  · exact ⟨hl, .inl h0⟩
  · exact ⟨hl, .inr ⟨g, cap, cur, hv, hg, by rw [hm.block g (Array.getElem?_eq_some_iff.1 hh).1 (ho g (by rw [hv]; rfl))]; exact hh, hr⟩⟩
/-- The blocks of a tape are the call's own. -/
def M.own1 (w : World) (lo hi : Nat) (p : M.TapeD × Value) : Prop := M.OwnS w lo p.2 p.1.ss ∧ ∀ g, p.2.ownBlock = some g → g < hi
/-- No two tapes share a block. -/
def M.apart (ps : List (M.TapeD × Value)) : Prop := ps.Pairwise fun p q => ∀ g, p.2.ownBlock = some g → q.2.ownBlock ≠ some g
/-- A slice of tapes in a row that is the call's own, as are the blocks of each. -/
structure M.OwnT (w : World) (lo hi : Nat) (v : Value) (ps : List (M.TapeD × Value)) : Prop where
  row : w.ownsRow lo 36 4 v ps.length (M.cellsT ps)
  top : ∀ g, v.ownBlock = some g → g < hi
  each : ∀ p ∈ ps, M.own1 w lo hi p
  apart : M.apart ps

theorem M.row_of {w : World} {g cap lo : Nat} {ps : List (M.TapeD × Value)} (hat : M.PAt w g ps) (hr : M.Row w g 36 (cap * 4)) (hb : lo ≤ g) (hn : ps.length ≤ cap) (hc : cap ≤ maxLen) : w.ownsRow lo 36 4 (.slice (some ⟨g, 0, none⟩) ps.length cap) ps.length (M.cellsT ps) := by
  obtain ⟨cur, hh, hz⟩ := hr
  refine ⟨M.cellsT_len ps, .inr ⟨g, cap, cur, rfl, hb, hh, hn, hc, hz, ?_⟩⟩
  apply List.ext_getElem?
  intro t
  by_cases h : t < ps.length * 4
  · rw [List.getElem?_take_of_lt h]
    have hl2 : t / 4 < ps.length := by omega
    obtain ⟨c0, c1, c2, c3⟩ := hat (t / 4) _ (List.getElem?_eq_getElem hl2)
    have key : ∀ c, c < 4 → cur.toList[t / 4 * 4 + c]? = (M.tcells (ps[t / 4]))[c]? := fun c hc4 => by
      have hcell : w.cell? ⟨g, t / 4 * 4 + c, none⟩ = cur.toList[t / 4 * 4 + c]? := by simp [World.cell?, hh]
      rw [← hcell]
      match c, hc4 with
      | 0, _ => exact c0
      | 1, _ => exact c1
      | 2, _ => exact c2
      | 3, _ => exact c3
    have h1 := key (t % 4) (Nat.mod_lt _ (by decide))
    have h2 := M.cellsT_get ps (t / 4) hl2 (t % 4) (Nat.mod_lt _ (by decide))
    rw [show t / 4 * 4 + t % 4 = t by omega] at h1 h2
    rw [h1, h2]
  · rw [List.getElem?_eq_none (by rw [List.length_take]; exact Nat.le_trans (Nat.min_le_left _ _) (by omega)), List.getElem?_eq_none (by rw [M.cellsT_len]; omega)]
theorem M.pat_of {w : World} {g : Nat} {cur : Array Value} {ps : List (M.TapeD × Value)} (hh : w.heap[g]? = some (.cells cur 36 (0, 0))) (ht : cur.toList.take (ps.length * 4) = M.cellsT ps) : M.PAt w g ps := by
  intro i p hp
  obtain ⟨hi, rfl⟩ := List.getElem?_eq_some_iff.1 hp
  have cell : ∀ c, c < 4 → w.cell? ⟨g, i * 4 + c, none⟩ = (M.tcells ps[i])[c]? := fun c hcc => by
    rw [← M.cellsT_get ps i hi c hcc, ← ht, List.getElem?_take_of_lt (by omega)]
    simp [World.cell?, hh]
  exact ⟨cell 0 (by omega), cell 1 (by omega), cell 2 (by omega), cell 3 (by omega)⟩
theorem M.OwnT.nil (w : World) (lo hi : Nat) : M.OwnT w lo hi (.slice none 0 0) [] := ⟨⟨rfl, .inl ⟨rfl, rfl⟩⟩, (fun g h => by cases h), (fun p h => by simp at h), List.Pairwise.nil⟩
theorem M.OwnT.len {w : World} {lo hi : Nat} {v : Value} {ps : List (M.TapeD × Value)} (h : M.OwnT w lo hi v ps) : ∃ a cap, v = .slice a ps.length cap := by
  obtain ⟨⟨hl, ⟨rfl, h0⟩ | ⟨g, cap, cur, rfl, -⟩⟩, -, -, -⟩ := h
  · exact ⟨none, 0, by rw [h0]⟩
  · exact ⟨_, cap, rfl⟩
theorem M.OwnT.mid {lo hi lo' hi' : Nat} {w w' : World} {v : Value} {ps : List (M.TapeD × Value)} (h : M.OwnT w lo hi v ps) (hm : M.Mid lo' hi' w w') (ho : hi ≤ lo' ∨ hi' ≤ lo) : M.OwnT w' lo hi v ps := by
  obtain ⟨⟨hl, hr⟩, ht, he, ha⟩ := h
  refine ⟨⟨hl, ?_⟩, ht, fun p hp => ⟨(he p hp).1.mid hm (fun g hg => ?_), (he p hp).2⟩, ha⟩
  · rcases hr with h0 | ⟨g, cap, cur, hv, hg, hh, hr⟩
    · exact .inl h0
    · have := ht g (by rw [hv]; rfl)
      exact .inr ⟨g, cap, cur, hv, hg, by rw [hm.block g (Array.getElem?_eq_some_iff.1 hh).1 (by omega)]; exact hh, hr⟩
  · have h1 := (he p hp).2 g hg
    have h2 := (World.ownsRow.lt (he p hp).1 g hg).1
    omega
theorem M.OwnT.below {lo hi : Nat} {w w' : World} {v : Value} {ps : List (M.TapeD × Value)} (h : M.OwnT w lo hi v ps) (hb : Below w.heap.size w w') : M.OwnT w' lo hi v ps := by
  obtain ⟨⟨hl, hr⟩, ht, he, ha⟩ := h
  refine ⟨⟨hl, ?_⟩, ht, fun p hp => ⟨(he p hp).1.below hb, (he p hp).2⟩, ha⟩
  rcases hr with h0 | ⟨g, cap, cur, hv, hg, hh, hr⟩
  · exact .inl h0
  · exact .inr ⟨g, cap, cur, hv, hg, by rw [hb.block g (Array.getElem?_eq_some_iff.1 hh).1]; exact hh, hr⟩
theorem M.OwnT.widen {lo hi lo' hi' : Nat} {w : World} {v : Value} {ps : List (M.TapeD × Value)} (h : M.OwnT w lo hi v ps) (h1 : lo' ≤ lo) (h2 : hi ≤ hi') : M.OwnT w lo' hi' v ps := by
  obtain ⟨⟨hl, hr⟩, ht, he, ha⟩ := h
  refine ⟨⟨hl, ?_⟩, fun g hg => Nat.lt_of_lt_of_le (ht g hg) h2, fun p hp => ⟨(he p hp).1.lower h1, fun g hg => Nat.lt_of_lt_of_le ((he p hp).2 g hg) h2⟩, ha⟩
  rcases hr with h0 | ⟨g, cap, cur, hv, hg, hr⟩
  · exact .inl h0
  · exact .inr ⟨g, cap, cur, hv, Nat.le_trans h1 hg, hr⟩
theorem M.OwnS.noneCap {w : World} {lo n c : Nat} {v : Value} {ss : List ByteArray} {a : Option Addr} (h : M.OwnS w lo v ss) (e : v = .slice a n c) : a = none → c = 0 := by
  intro ha
  subst ha
  obtain ⟨-, ⟨h0, -⟩ | ⟨g, cap, cur, h0, -⟩⟩ := h
  · rw [h0] at e; cases e; rfl
  · rw [h0] at e; cases e
/-- As tapes that are read. -/
theorem M.OwnT.tps {lo hi : Nat} {w : World} {v : Value} {ps : List (M.TapeD × Value)} (h : M.OwnT w lo hi v ps) : ∃ a cap, v = .slice a ps.length cap ∧ M.Tps w a ps.length cap (ps.map Prod.fst) := by
  obtain ⟨⟨hl, ⟨rfl, h0⟩ | ⟨g, cap, cur, rfl, hg, hh, hn, hc, hz, htk⟩⟩, ht, he, ha⟩ := h
  · exact ⟨none, 0, by rw [h0], by simp, by omega, Nat.zero_le _, fun h => by omega⟩
  · refine ⟨_, cap, rfl, by simp, hn, hc, fun _ => ⟨g, 0, rfl, fun i hi => ?_⟩⟩
    rw [List.length_map] at hi
    obtain ⟨c0, c1, c2, c3⟩ := M.pat_of hh htk i _ (List.getElem?_eq_getElem hi)
    obtain ⟨a', cap', e, hs⟩ := (he ps[i] (List.getElem_mem hi)).1.strs
    rw [List.getElem_map, Nat.zero_add]
    exact ⟨c0, ⟨a', _, cap', by rw [← e]; exact c1, hs, M.OwnS.noneCap (v := (ps[i]).2) (he ps[i] (List.getElem_mem hi)).1 e⟩, c2, c3⟩
/-- No tape's blocks lie where the tapes lie. -/
theorem M.OwnT.notIn {lo hi : Nat} {w : World} {v : Value} {ps : List (M.TapeD × Value)} (h : M.OwnT w lo hi v ps) {p : M.TapeD × Value} (hp : p ∈ ps) {g : Nat} (hv : v.ownBlock = some g) : p.2.ownBlock ≠ some g := by
  obtain ⟨⟨hl, ⟨rfl, h0⟩ | ⟨g', cap, cur, rfl, hg, hh, -⟩⟩, ht, he, ha⟩ := h
  · cases hv
  · obtain rfl := Option.some.inj hv
    obtain ⟨-, ⟨e, -⟩ | ⟨b, cb, cu, e, -, hb, -⟩⟩ := (he p hp).1
    · rw [e]; intro h; cases h
    · rw [e]
      intro h
      obtain rfl := Option.some.inj h
      rw [hh] at hb
      have := Option.some.inj hb
      simp at this
theorem M.oneCellT {lo hi : Nat} {w : World} {p : M.TapeD × Value} (h : M.own1 w lo hi p) : ∀ v ∈ M.tcells p, v.oneCell' = true := by
  intro v hv
  simp [M.tcells] at hv
  rcases hv with rfl | rfl | rfl | rfl
  · rfl
  · obtain ⟨a, c, e⟩ := h.1.len
    rw [e]; rfl
  · rfl
  · rfl
theorem M.OwnT.at_slice {w : World} {lo hi : Nat} {a : Option Addr} {n c : Nat} {ps : List (M.TapeD × Value)} {ts : List M.TapeD} (h : M.OwnT w lo hi (.slice a n c) ps) (hp : ps.map Prod.fst = ts) : M.Tps w a n c ts := by
  obtain ⟨a', c', e, hv⟩ := h.tps
  cases e
  rwa [hp] at hv
end Go.Proofs.Ytappficbjjkmiaa

/-
  What toTape and toTapeS of the laws do: tapes of the call's own.
-/
namespace Go.Proofs.Ytappficbjjkmiaa
open Go.RowKit

theorem Try.infoTp : (Try.prog.info? 36).map (fun i => (i.zero, i.size, i.bytes)) = some (some (.agg #[.int .i64 0, .slice none 0 0, .int .i64 0, .int .i64 0]), 4, 48) := by kernel_rfl
theorem M.ownS_of {w : World} {g lo : Nat} {ss : List ByteArray} (hat : M.StrsAt w g 0 ss) (hr : M.Row w g 9 ss.length) (hb : lo ≤ g) (hl : ss.length ≤ maxLen) : M.OwnS w lo (.slice (some ⟨g, 0, none⟩) ss.length ss.length) ss := by
  obtain ⟨cur, hh, hz⟩ := hr
  refine ⟨by simp, .inr ⟨g, ss.length, cur, rfl, hb, hh, Nat.le_refl _, hl, by rw [hz, Nat.mul_one], ?_⟩⟩
  apply List.ext_getElem?
  intro t
  rw [Nat.mul_one]
  by_cases h : t < ss.length
  · rw [List.getElem?_take_of_lt h]
    have hc := hat t h
    rw [Nat.zero_add] at hc
    rw [List.getElem?_map, List.getElem?_eq_getElem h, Option.map_some, ← hc]
    simp [World.cell?, hh]
  · rw [List.getElem?_eq_none (by rw [List.length_take]; exact Nat.le_trans (Nat.min_le_left _ _) (by omega)), List.getElem?_eq_none (by simp; omega)]
theorem toStringS_own (w : World) (a : Option Addr) (len cap : Nat) (ss : List ByteArray) (h : M.Strs w a len cap ss) (hlen : len ≤ 1048576) :
    Calls Try.prog 83 #[.slice a len cap] w fun e w' => ∃ b : Nat, e = .returned (.slice (some ⟨b, 0, none⟩) len len) ∧ w.heap.size ≤ b ∧ M.OwnS w' w.heap.size (.slice (some ⟨b, 0, none⟩) len len) ss ∧ Below w.heap.size w w' := by
  refine (toStringS_any w a len cap ss h hlen).mono ?_
  rintro e w' ⟨rfl, hat, hr, hb⟩
  obtain rfl := h.1
  exact ⟨_, rfl, Nat.le_refl _, M.ownS_of hat hr (Nat.le_refl _) (by unfold maxLen; omega), hb⟩

set_option maxRecDepth 100000 in
set_option maxHeartbeats 1600000 in
theorem toTape_any (w : World) (a : Option Addr) (n c : Nat) (ss : List ByteArray) (x y z : Int) (h : M.Strs w a n c ss) (hl : n ≤ 1048576) :
    Calls Try.prog 67 #[.agg #[.int .i64 x, .slice a n c, .int .i64 y, .int .i64 z]] w fun e w' => ∃ b : Nat, e = .returned (.agg #[.int .i64 x, .slice (some ⟨b, 0, none⟩) n n, .int .i64 y, .int .i64 z]) ∧
      M.OwnS w' w.heap.size (.slice (some ⟨b, 0, none⟩) n n) ss ∧ w.heap.size ≤ b ∧ Below w.heap.size w w' := by
  have CS : Hid (∀ W, Below w.heap.size w W → w.heap.size + 1 + 1 + 1 = W.heap.size → Calls Try.prog 83 #[.slice a n c] W fun e w' => ∃ b : Nat, e = .returned (.slice (some ⟨b, 0, none⟩) n n) ∧ w.heap.size + 1 + 1 + 1 ≤ b ∧ M.OwnS w' (w.heap.size + 1 + 1 + 1) (.slice (some ⟨b, 0, none⟩) n n) ss ∧ Below W.heap.size W w') := fun W hW hs => by
    rw [hs]; exact toStringS_own W a n c ss (h.below hW) hl
  clear h
  obtain ⟨W3, hW3⟩ : ∃ W3, W3 = ((w.alloc (.cells #[.int .i64 x, .slice a n c, .int .i64 y, .int .i64 z] 95)).alloc (.cells #[.int .i64 0, .slice none 0 0, .int .i64 0, .int .i64 0] 36)).alloc (.cells #[.int .i64 x, .slice none 0 0, .int .i64 0, .int .i64 0] 36) := ⟨_, rfl⟩
  obtain ⟨t0, t1, t2⟩ := M.thr3 w (.cells #[.int .i64 x, .slice a n c, .int .i64 y, .int .i64 z] 95) (.cells #[.int .i64 0, .slice none 0 0, .int .i64 0, .int .i64 0] 36) (.cells #[.int .i64 x, .slice none 0 0, .int .i64 0, .int .i64 0] 36)
  rw [← hW3] at t0 t1 t2
  have T0 := M.hl t0
  have T1 := M.hl t1
  have T2 := M.hl t2
  have B3 : Hid (Below w.heap.size w W3) := by rw [hW3]; exact (((Below.refl _ _).alloc (Nat.le_refl _) _).alloc (by simp) _).alloc (by simp; omega) _
  have Z3 : Hid (W3.heap.size = w.heap.size + 1 + 1 + 1) := by rw [hW3]; show _ = _; simp
  clear t0 t1 t2
  go_enter Try.func67, Try.ntmps67
  go_wp2_with fail
  rw [← hW3]
  refine (CS.out _ B3.out (by have := Z3.out; omega)).mono ?_
  rintro e w1 ⟨b, rfl, hbb, hO, hb⟩
  have O1 := M.hl hO
  have HB := M.hl hbb
  have hz := Z3.out
  have B1 : Hid (Below w.heap.size w w1) := B3.out.trans (hb.mono B3.out.size)
  have u0 := (hb.block w.heap.size (by rw [hz]; omega)).trans T0.out
  have u1 := (hb.block (w.heap.size + 1) (by rw [hz]; omega)).trans T1.out
  have u2 := (hb.block (w.heap.size + 1 + 1) (by rw [hz]; omega)).trans T2.out
  have k2 := M.bk_cell u0 2 (.int .i64 y) rfl
  have k3 := M.bk_cell u0 3 (.int .i64 z) rfl
  have r0 := M.bk_cell u1 0 (.int .i64 0) rfl
  have r1 := M.bk_cell u1 1 (.slice none 0 0) rfl
  have r2 := M.bk_cell u1 2 (.int .i64 0) rfl
  have r3 := M.bk_cell u1 3 (.int .i64 0) rfl
  have s0 := M.bk_cell u2 0 (.int .i64 x) rfl
  have s1 := M.bk_cell u2 1 (.slice none 0 0) rfl
  have s2 := M.bk_cell u2 2 (.int .i64 0) rfl
  have s3 := M.bk_cell u2 3 (.int .i64 0) rfl
  have fr := M.bk_free u1
  have ft := M.bk_free u2
  clear hO hb hW3 hbb u0 u1 u2 hz
  go_wp2
  refine bodyPost_ret (v := .agg #[.int .i64 x, .slice (some ⟨b, 0, none⟩) n n, .int .i64 y, .int .i64 z]) (by simp [results, Try.results67, go_sem, r0, r1, r2, r3]) rfl ⟨_, rfl, ?_, by have := HB.out; omega, ?_⟩
  · exact (((((((O1.out.setLow (by omega) _ _).setLow (by omega) _ _).setLow (by omega) _ _).setLow (by omega) _ _).setLow (by omega) _ _).setLow (by omega) _ _).setLow (by omega) _ _).lower (by omega)
  · exact ((((((B1.out.setCell (by simp; omega) _).setCell (by simp; omega) _).setCell (by simp; omega) _).setCell (by simp) _).setCell (by simp) _).setCell (by simp) _).setCell (by simp) _
end Go.Proofs.Ytappficbjjkmiaa

/-
  What szStringS, szTape and szTapeS of the laws do: how much is left.
-/
namespace Go.Proofs.Ytappficbjjkmiaa
open Go.RowKit

/-- How many blocks all tapes have. -/
def M.tln (ts : List M.TapeD) : Nat := (ts.map fun t => t.ss.length).sum
theorem M.tln_app (ts us : List M.TapeD) : M.tln (ts ++ us) = M.tln ts + M.tln us := by simp [M.tln]
theorem M.tln_one (t : M.TapeD) : M.tln [t] = t.ss.length := by simp [M.tln]
theorem M.take_snocG {α : Type} {l : List α} {k : Nat} {x : α} (h : l[k]? = some x) : l.take (k + 1) = l.take k ++ [x] := by
  rw [List.take_add_one, h]; rfl
theorem M.tln_take {ts : List M.TapeD} {k : Nat} {t : M.TapeD} (h : ts[k]? = some t) : M.tln (ts.take (k + 1)) = M.tln (ts.take k) + t.ss.length := by
  rw [M.take_snocG h, M.tln_app, M.tln_one]

set_option maxRecDepth 100000 in
set_option maxHeartbeats 1600000 in
theorem szStringS_left (w : World) (a : Option Addr) (len cap : Nat) (ss : List ByteArray) (left : Int) (h : M.Strs w a len cap ss) (hok : ∀ s ∈ ss, s.size ≤ maxLen) (h3 : 0 ≤ left) (h4 : left ≤ 1048576) :
    Calls Try.prog 82 #[.slice a len cap, .int .i64 left] w fun e w' => ∃ v : Int, e = .returned (.int .i64 v) ∧ v ≤ 1048576 ∧ (0 ≤ v → v + len ≤ left ∧ ∀ s ∈ ss, (s.size : Int) ≤ left) ∧ w = w' := by
  have hlm : len ≤ 9223372036854775807 := by obtain ⟨_, h1, h2, _⟩ := h; unfold maxLen at h2; omega
  have HF : Hid (M.Strs w a len cap ss) := h
  have HOK : Hid (∀ s ∈ ss, s.size ≤ maxLen) := hok
  clear h hok
  by_cases hl : left - len < 0
  · go_enter Try.func82, Try.ntmps82
    go_wp2
    go_ret
    exact ⟨-1, rfl, by omega, fun h => by omega, rfl⟩
  go_enter Try.func82, Try.ntmps82
  go_wp2
  go_loop [1, 5] (fun z i => ∃ (k : Nat) (l : Int), i = .int .i64 k ∧ z = .int .i64 l ∧ k ≤ len ∧ 0 ≤ l ∧ l + len ≤ left ∧ Hid (∀ s ∈ ss.take k, (s.size : Int) ≤ left)) (fun _ i => len - (intOf i).toNat)
  case atStart => exact ⟨0, _, rfl, rfl, Nat.zero_le _, by omega, by omega, fun f hf => by simp at hf⟩
  case round =>
    obtain ⟨k, l, rfl, rfl, hk, hl0, hl1, HA⟩ := hrel
    by_cases hlt : k < len
    · obtain ⟨hfl, _, _, hfa⟩ := HF.out
      obtain ⟨b, off, rfl, hat⟩ := hfa (by omega)
      have c0 := hat k (by omega)
      have hfk := List.getElem?_eq_getElem (l := ss) (i := k) (by omega)
      generalize ss[k]'(by omega) = s at c0 hfk
      have HFK : Hid (ss[k]? = some s) := hfk
      have o1 : s.size ≤ 9223372036854775807 := by have := HOK.out s (List.mem_of_getElem? hfk); unfold maxLen at this; omega
      clear hfk hat hfa hfl
      by_cases hs : l - s.size < 0
      · go_wp2
        go_ret
        exact ⟨-1, rfl, by omega, fun h => by omega, rfl⟩
      · have HA2 : Hid (∀ s ∈ ss.take (k + 1), (s.size : Int) ≤ left) := by
          show ∀ f ∈ _, _
          rw [M.take_snocS HFK.out]
          intro g hg
          rcases List.mem_append.1 hg with h | h
          · exact HA.out g h
          · obtain rfl := List.mem_singleton.1 h
            omega
        go_wp2
        go_round
        case rel => exact ⟨k + 1, l - s.size, by go_num, rfl, by omega, by omega, by omega, HA2⟩
        case measure => simp [intOf]; omega
    · have hall : ss.take k = ss := List.take_of_length_le (by have := HF.out.1; omega)
      have HA3 : Hid (∀ s ∈ ss, (s.size : Int) ≤ left) := by have := HA.out; rw [hall] at this; exact this
      clear hall
      go_wp2
      go_ret
      exact ⟨l, rfl, by omega, fun _ => ⟨by omega, HA3.out⟩, rfl⟩

set_option maxRecDepth 100000 in
set_option maxHeartbeats 800000 in
theorem szTape_any (w : World) (a : Option Addr) (n c : Nat) (ss : List ByteArray) (x y z left : Int) (h : M.Strs w a n c ss) (hok : ∀ s ∈ ss, s.size ≤ maxLen) (h3 : 0 ≤ left) (h4 : left ≤ 1048576) :
    Calls Try.prog 66 #[.agg #[.int .i64 x, .slice a n c, .int .i64 y, .int .i64 z], .int .i64 left] w fun e w' => ∃ v : Int, e = .returned (.int .i64 v) ∧ v ≤ 1048576 ∧ (0 ≤ v → v + n ≤ left ∧ ∀ s ∈ ss, (s.size : Int) ≤ left) ∧ Below w.heap.size w w' := by
  have HB : Hid (∀ o, Below w.heap.size w (w.alloc o)) := fun o => (Below.refl _ _).alloc (Nat.le_refl _) _
  have CS : Hid (∀ o, Calls Try.prog 82 #[.slice a n c, .int .i64 left] (w.alloc o) fun e w' => ∃ v : Int, e = .returned (.int .i64 v) ∧ v ≤ 1048576 ∧ (0 ≤ v → v + n ≤ left ∧ ∀ s ∈ ss, (s.size : Int) ≤ left) ∧ w.alloc o = w') := fun o => szStringS_left _ a n c ss left (h.below (HB.out o)) hok h3 h4
  clear h hok
  go_enter Try.func66, Try.ntmps66
  go_wp2_with fail
  refine (CS.out _).mono ?_
  rintro e w1 ⟨v, rfl, hv1, hv2, rfl⟩
  have HV2 := M.hl hv2
  clear hv2
  by_cases hneg : v < 0
  · go_wp2
    go_ret
    exact ⟨-1, rfl, by omega, fun h => by omega, HB.out _⟩
  · go_wp2
    go_ret
    exact ⟨v, rfl, hv1, HV2.out, HB.out _⟩

set_option maxRecDepth 100000 in
set_option maxHeartbeats 1600000 in
theorem szTapeS_any (w : World) (a : Option Addr) (len cap : Nat) (ts : List M.TapeD) (h : M.Tps w a len cap ts) (hok : ∀ t ∈ ts, M.tok t) :
    Calls Try.prog 25 #[.slice a len cap, .int .i64 1048576] w fun e w' => ∃ v : Int, e = .returned (.int .i64 v) ∧ v ≤ 1048576 ∧ (0 ≤ v → v + len + M.tln ts ≤ 1048576 ∧ ∀ t ∈ ts, ∀ s ∈ t.ss, (s.size : Int) ≤ 1048576) ∧ Below w.heap.size w w' := by
  have hlm : len ≤ 9223372036854775807 := h.max
  have HF := M.hl h
  have HOK := M.hl hok
  clear h hok
  by_cases hl : (1048576 : Int) - len < 0
  · go_enter Try.func25, Try.ntmps25
    go_wp2
    go_ret
    exact ⟨-1, rfl, by omega, fun h => by omega, Below.refl _ _⟩
  go_enter Try.func25, Try.ntmps25
  go_wp2
  go_loopw [1, 5] (fun z i wr => ∃ (k : Nat) (l : Int), i = .int .i64 k ∧ z = .int .i64 l ∧ k ≤ len ∧ 0 ≤ l ∧ l ≤ 1048576 ∧ Hid (l + len + M.tln (ts.take k) ≤ 1048576) ∧ Hid (∀ t ∈ ts.take k, ∀ s ∈ t.ss, (s.size : Int) ≤ 1048576) ∧ Hid (Below w.heap.size w wr)) (fun _ i _ => len - (intOf i).toNat)
  case atStart => exact ⟨0, _, rfl, rfl, Nat.zero_le _, by omega, by omega, by show _ ≤ _; simp [M.tln], fun f hf => by simp at hf, Below.refl _ _⟩
  case round =>
    obtain ⟨k, l, rfl, rfl, hk, hl0, hl2, HL, HA, HBr⟩ := hrel
    by_cases hlt : k < len
    · obtain ⟨b, off, t, rfl, hfk, hat⟩ := (HF.out.below HBr.out).at hlt
      have HFK := M.hl hfk
      have ho := (HOK.out t (List.mem_of_getElem? hfk)).1
      have HO := M.hl ho
      obtain ⟨x, ss, y, z⟩ := t
      obtain ⟨c0, ⟨a', n', c', c1, hs, -⟩, c2, c3⟩ := hat
      simp only at c0 c1 c2 c3 hs
      have HN : Hid (n' = ss.length) := hs.1
      have CS : Hid (Calls Try.prog 66 #[.agg #[.int .i64 x, .slice a' n' c', .int .i64 y, .int .i64 z], .int .i64 l] wr fun e w' => ∃ v : Int, e = .returned (.int .i64 v) ∧ v ≤ 1048576 ∧ (0 ≤ v → v + n' ≤ l ∧ ∀ s ∈ ss, (s.size : Int) ≤ l) ∧ Below wr.heap.size wr w') := szTape_any wr a' n' c' ss x y z l hs ho hl0 hl2
      clear hs hfk ho
      go_wp2_with fail
      refine CS.out.mono ?_
      rintro e w2 ⟨v, rfl, hv1, hv2, hb2⟩
      have HV2 := M.hl hv2
      have HB2 : Hid (Below w.heap.size w w2) := HBr.out.trans (hb2.mono HBr.out.size)
      clear hv2 hb2 c0 c1 c2 c3
      by_cases hneg : v < 0
      · go_wp2
        go_ret
        exact ⟨-1, rfl, by omega, fun h => by omega, HB2.out⟩
      · have HL2 : Hid (v + len + M.tln (ts.take (k + 1)) ≤ 1048576) := by
          show _ ≤ _
          rw [M.tln_take HFK.out]
          have := HL.out
          have := (HV2.out (by omega)).1
          have := HN.out
          simp only
          omega
        have HA2 : Hid (∀ t ∈ ts.take (k + 1), ∀ s ∈ t.ss, (s.size : Int) ≤ 1048576) := by
          show ∀ f ∈ _, _
          rw [M.take_snocG HFK.out]
          intro g hg s hs
          rcases List.mem_append.1 hg with h | h
          · exact HA.out g h s hs
          · obtain rfl := List.mem_singleton.1 h
            have := (HV2.out (by omega)).2 s hs
            omega
        go_wp2
        go_roundw
        case rel => exact ⟨k + 1, v, by go_num, rfl, by omega, by omega, by omega, HL2, HA2, HB2⟩
        case measure => simp [intOf]; omega
    · have hall : ts.take k = ts := List.take_of_length_le (by have := HF.out.1; omega)
      have HA3 : Hid (l + len + M.tln ts ≤ 1048576 ∧ ∀ t ∈ ts, ∀ s ∈ t.ss, (s.size : Int) ≤ 1048576) := by have h1 := HL.out; have h2 := HA.out; rw [hall] at h1 h2; exact ⟨h1, h2⟩
      clear hall
      go_wp2
      go_ret
      exact ⟨l, rfl, by omega, fun _ => HA3.out, HBr.out⟩
end Go.Proofs.Ytappficbjjkmiaa

/-
  What toTapeS of the laws does: a row of tapes of the call's own.
-/
namespace Go.Proofs.Ytappficbjjkmiaa
open Go.RowKit

theorem M.co4 {W : World} {H i j : Nat} {v : Value} (h : i ≠ j) : (W.setCell ⟨H, i, none⟩ v).cell? ⟨H, j, none⟩ = W.cell? ⟨H, j, none⟩ := World.cell?_setCell_other _ _ _ _ (by intro e; simp only [Addr.mk.injEq] at e; omega)
/-- The cells of one tape more, each stored. -/
theorem M.PAt.push {w : World} {g k N : Nat} {T : TypeId} {ps : List (M.TapeD × Value)} {x y z : Int} {u : Value} {ss : List ByteArray} (h : M.PAt w g ps) (hr : M.Row w g T N) (hk : ps.length = k) (hN : k * 4 + 4 ≤ N) :
    M.PAt ((((w.setCell ⟨g, k * 4, none⟩ (.int .i64 x)).setCell ⟨g, k * 4 + 1, none⟩ u).setCell ⟨g, k * 4 + 2, none⟩ (.int .i64 y)).setCell ⟨g, k * 4 + 3, none⟩ (.int .i64 z)) g (ps ++ [(⟨x, ss, y, z⟩, u)]) := by
  intro i p hp
  by_cases e : i = k
  · subst e
    rw [← hk] at hp
    simp at hp
    subst hp
    obtain ⟨v0, g0⟩ := hr.cell (i := i * 4) (by omega)
    obtain ⟨v1, g1⟩ := hr.cell (i := i * 4 + 1) (by omega)
    obtain ⟨v2, g2⟩ := hr.cell (i := i * 4 + 2) (by omega)
    obtain ⟨v3, g3⟩ := hr.cell (i := i * 4 + 3) (by omega)
    refine ⟨?_, ?_, ?_, ?_⟩
    · rw [M.co4 (by omega), M.co4 (by omega), M.co4 (by omega), World.cell?_setCell_same _ _ _ g0]
    · rw [M.co4 (by omega), M.co4 (by omega), World.cell?_setCell_same _ _ _ ((M.co4 (by omega)).trans g1)]
    · rw [M.co4 (by omega), World.cell?_setCell_same _ _ _ ((M.co4 (by omega)).trans ((M.co4 (by omega)).trans g2))]
    · rw [World.cell?_setCell_same _ _ _ ((M.co4 (by omega)).trans ((M.co4 (by omega)).trans ((M.co4 (by omega)).trans g3)))]
  · have hi : i < (ps ++ [((⟨x, ss, y, z⟩ : M.TapeD), u)]).length := (List.getElem?_eq_some_iff.1 hp).1
    rw [List.length_append] at hi
    simp at hi
    have hi' : i < ps.length := by omega
    rw [List.getElem?_append_left hi'] at hp
    obtain ⟨c0, c1, c2, c3⟩ := h i p hp
    refine ⟨?_, ?_, ?_, ?_⟩
    · rw [M.co4 (by omega), M.co4 (by omega), M.co4 (by omega), M.co4 (by omega)]; exact c0
    · rw [M.co4 (by omega), M.co4 (by omega), M.co4 (by omega), M.co4 (by omega)]; exact c1
    · rw [M.co4 (by omega), M.co4 (by omega), M.co4 (by omega), M.co4 (by omega)]; exact c2
    · rw [M.co4 (by omega), M.co4 (by omega), M.co4 (by omega), M.co4 (by omega)]; exact c3
theorem M.apart_snoc {ps : List (M.TapeD × Value)} {p : M.TapeD × Value} (h : M.apart ps) (hp : ∀ q ∈ ps, ∀ g, q.2.ownBlock = some g → p.2.ownBlock ≠ some g) : M.apart (ps ++ [p]) := by
  unfold M.apart
  rw [List.pairwise_append]
  refine ⟨h, by simp, fun a ha b hb => ?_⟩
  obtain rfl := List.mem_singleton.1 hb
  exact hp a ha
/-- Tapes whose blocks are the call's own, above a place. -/
def M.ownAll (w : World) (lo : Nat) (ps : List (M.TapeD × Value)) : Prop := (∀ p ∈ ps, M.own1 w lo w.heap.size p) ∧ M.apart ps
theorem M.ownAll.below {w w' : World} {lo : Nat} {ps : List (M.TapeD × Value)} (h : M.ownAll w lo ps) (hb : Below w.heap.size w w') : M.ownAll w' lo ps :=
  ⟨fun p hp => ⟨(h.1 p hp).1.below hb, fun g hg => Nat.lt_of_lt_of_le ((h.1 p hp).2 g hg) hb.size⟩, h.2⟩
theorem M.ownAll.set {w : World} {lo H : Nat} {ps : List (M.TapeD × Value)} (h : M.ownAll w lo ps) (hH : H < lo) (j : Nat) (v : Value) : M.ownAll (w.setCell ⟨H, j, none⟩ v) lo ps :=
  ⟨fun p hp => ⟨(h.1 p hp).1.setLow hH j v, fun g hg => by have := (h.1 p hp).2 g hg; simpa [World.setCell] using this⟩, h.2⟩
theorem M.ownAll.snoc {w : World} {lo : Nat} {ps : List (M.TapeD × Value)} {p : M.TapeD × Value} (h : M.ownAll w lo ps) (ho : M.OwnS w lo p.2 p.1.ss) (hn : ∀ q ∈ ps, ∀ g, q.2.ownBlock = some g → p.2.ownBlock ≠ some g) : M.ownAll w lo (ps ++ [p]) :=
  ⟨fun q hq => by
    rcases List.mem_append.1 hq with h1 | h1
    · exact h.1 q h1
    · obtain rfl := List.mem_singleton.1 h1
      exact ⟨ho, fun g hg => (World.ownsRow.lt ho g hg).2⟩, M.apart_snoc h.2 hn⟩

set_option maxRecDepth 100000 in
set_option maxHeartbeats 3200000 in
theorem toTapeS_any (w : World) (a : Option Addr) (len cap : Nat) (ts : List M.TapeD) (h : M.Tps w a len cap ts) (hlen : len + M.tln ts ≤ 1048576) :
    Calls Try.prog 26 #[.slice a len cap] w fun e w' => ∃ (b : Nat) (ps : List (M.TapeD × Value)), e = .returned (.slice (some ⟨b, 0, none⟩) len len) ∧ ps.map Prod.fst = ts ∧ M.OwnT w' w.heap.size w'.heap.size (.slice (some ⟨b, 0, none⟩) len len) ps ∧ Below w.heap.size w w' := by
  obtain ⟨i0, hi, hz0, hz1, hz2⟩ := info_parts Try.infoTp
  have HF := M.hl h
  have HN : Hid (len = ts.length) := h.1
  clear h
  go_enter Try.func26, Try.ntmps26
  go_wp2_with (at_make; refine wpList_make_full _ rfl (.tmp 6) (.tmp 6) 23 rfl w.heap.size 36 i0 _ 4 Try.underlying23 hi hz0 hz1 .i64 .i64 _ _ len rfl rfl rfl rfl ?c3 ?c4 ?c5 ?_)
  case c3 => rw [hz2]; omega
  case c4 => unfold maxLen; omega
  case c5 => exact Nat.le_refl _
  intro w1 hown hgrow
  have hrow : M.Row w1 w.heap.size 36 (len * 4) := by
    obtain ⟨hl, h | ⟨g, cp, cur, hv, hb, hh, hn, hc, hz, ht⟩⟩ := hown
    · simp at h
    · simp only [Value.slice.injEq, Option.some.injEq, Addr.mk.injEq] at hv
      obtain ⟨⟨rfl, _, _⟩, _, rfl⟩ := hv
      exact ⟨cur, hh, hz⟩
  have hb1 : Below w.heap.size w w1 := ⟨hgrow.os, hgrow.tape, hgrow.output, hgrow.size, fun k hk => hgrow.block k hk (by simp)⟩
  have HROW := M.hl hrow
  have HB1 := M.hl hb1
  clear hown hgrow hrow hb1
  go_wp2
  go_loopw [4] (fun i wr => ∃ (k : Nat) (ps : List (M.TapeD × Value)), i = .int .i64 k ∧ k ≤ len ∧ Hid (M.Row wr w.heap.size 36 (len * 4)) ∧ Hid (ps.map Prod.fst = ts.take k) ∧ Hid (M.PAt wr w.heap.size ps) ∧ Hid (M.ownAll wr (w.heap.size + 1) ps) ∧ Hid (Below w.heap.size w wr)) (fun i _ => len - (intOf i).toNat)
  case atStart => exact ⟨0, [], rfl, Nat.zero_le _, HROW, rfl, (fun i p hp => by simp at hp), ⟨fun p hp => by simp at hp, List.Pairwise.nil⟩, HB1⟩
  case round =>
    obtain ⟨k, ps, rfl, hk, HRr, HM, HPr, HOr, HBr⟩ := hrel
    have HPL : Hid (ps.length = k) := by
      show _ = _
      have := congrArg List.length HM.out
      rw [List.length_map, List.length_take, ← HN.out] at this
      omega
    by_cases hlt : k < len
    · obtain ⟨b, off, t, rfl, hfk, hat⟩ := (HF.out.below HBr.out).at hlt
      have HFK := M.hl hfk
      obtain ⟨x, ss, y, z⟩ := t
      obtain ⟨c0, ⟨a', n', c', c1, hs, -⟩, c2, c3⟩ := hat
      simp only at c0 c1 c2 c3 hs
      have hn1 : n' ≤ 1048576 := by
        have h1 := M.tln_take hfk
        have h2 : M.tln ts = M.tln (ts.take (k + 1)) + M.tln (ts.drop (k + 1)) := by rw [← M.tln_app, List.take_append_drop]
        have h3 := hs.1
        simp only at h1
        omega
      have HW : Hid (w.heap.size < wr.heap.size) := HRr.out.lt
      have CT := M.hl (toTape_any wr a' n' c' ss x y z hs hn1)
      clear hs hfk
      go_wp2_with fail
      refine CT.out.mono ?_
      rintro e w2 ⟨q, rfl, hO, hq, hb2⟩
      have hblk := hb2.block w.heap.size HRr.out.lt
      have hR2 := HRr.out.of_block hblk
      have HR2 := M.hl hR2
      have HP2 := M.hl (HPr.out.of_block hblk)
      have HO2 := M.hl (HOr.out.below hb2)
      have HO := M.hl hO
      have HNE : Hid (∀ p ∈ ps, ∀ g, p.2.ownBlock = some g → (Value.slice (some ⟨q, 0, none⟩) n' n').ownBlock ≠ some g) := fun p hp g hg e => by
        have h1 := (HOr.out.1 p hp).2 g hg
        have h2 := Option.some.inj e
        simp at h2
        omega
      have HB2 : Hid (Below w.heap.size w w2) := HBr.out.trans (hb2.mono HBr.out.size)
      obtain ⟨v0, g0⟩ := hR2.cell (i := k * 4) (by omega)
      obtain ⟨v1, g1⟩ := hR2.cell (i := k * 4 + 1) (by omega)
      obtain ⟨v2, g2⟩ := hR2.cell (i := k * 4 + 2) (by omega)
      obtain ⟨v3, g3⟩ := hR2.cell (i := k * 4 + 3) (by omega)
      have e0 := hR2.free (k * 4)
      have e1 := hR2.free (k * 4 + 1)
      have e2 := hR2.free (k * 4 + 2)
      have e3 := hR2.free (k * 4 + 3)
      clear hb2 hblk hR2 c0 c1 c2 c3 hO
      go_wp2
      go_roundw
      case rel =>
        refine ⟨k + 1, ps ++ [(⟨x, ss, y, z⟩, .slice (some ⟨q, 0, none⟩) n' n')], by go_num, by omega, (((HR2.out.setCell _ _).setCell _ _).setCell _ _).setCell _ _, ?_, M.hl (HP2.out.push HR2.out HPL.out (by omega)), ?_, (((HB2.out.setCell (Nat.le_refl _) _).setCell (Nat.le_refl _) _).setCell (Nat.le_refl _) _).setCell (Nat.le_refl _) _⟩
        · show _ = _
          rw [List.map_append, HM.out, M.take_snocG HFK.out]
          rfl
        · refine M.ownAll.snoc ((((HO2.out.set (by omega) _ _).set (by omega) _ _).set (by omega) _ _).set (by omega) _ _) ?_ HNE.out
          have := HW.out
          exact ((((HO.out.lower (by omega)).setLow (by omega) _ _).setLow (by omega) _ _).setLow (by omega) _ _).setLow (by omega) _ _
      case measure => simp [intOf]; omega
    · have hlk : k = len := by omega
      subst hlk
      have HM2 : Hid (ps.map Prod.fst = ts) := by have := HM.out; rwa [List.take_of_length_le (by have := HN.out; omega)] at this
      go_wp2
      go_ret
      refine ⟨w.heap.size, ps, rfl, HM2.out, ⟨?_, fun g hg => ?_, fun p hp => ⟨(HOr.out.1 p hp).1.lower (by omega), (HOr.out.1 p hp).2⟩, HOr.out.2⟩, HBr.out⟩
      · have := M.row_of (cap := k) (lo := w.heap.size) HPr.out HRr.out (Nat.le_refl _) (by rw [HPL.out]; exact Nat.le_refl _) (by unfold maxLen; omega)
        rwa [HPL.out] at this ⊢
      · have := Option.some.inj hg
        rw [← this]
        exact HRr.out.lt
end Go.Proofs.Ytappficbjjkmiaa
