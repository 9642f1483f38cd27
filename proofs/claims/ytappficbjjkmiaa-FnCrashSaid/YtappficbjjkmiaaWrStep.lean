/-
  What a write onto tapes does to memory, a step at a time: the tapes, the parts and what is left lie apart.
-/
import Derived.Test.YtappficbjjkmiaaRestRow
import Derived.Test.YtappficbjjkmiaaWrMath
namespace Go.Proofs.Ytappficbjjkmiaa
open Go.RowKit

theorem M.row_notType {w : World} {base : Nat} {e : TypeId} {size n : Nat} {v : Value} {xs : List Value} (h : w.ownsRow base e size v n xs) {B : Nat} {c : Array Value} {T : TypeId} {fr : Nat × Nat} (hB : w.heap[B]? = some (.cells c T fr)) (hT : T ≠ e) : v.ownBlock ≠ some B := by
  obtain ⟨-, ⟨e1, -⟩ | ⟨g, cap, cur, e1, -, hh, -⟩⟩ := h
  · rw [e1]; intro h; cases h
  · rw [e1]
    intro h
    obtain rfl := Option.some.inj h
    simp only at hB
    rw [hh] at hB
    have := Option.some.inj hB
    simp at this
    exact hT this.2.1.symm
/-- Tapes, parts and what is left of a text's blocks, all in rows that share no block. -/
structure M.WrW (w : World) (lo g n cap : Nat) (pv rv : Value) (rb : Option Nat) (qs : List (M.TapeD × Value)) (ps : List M.PartD) (bs : List ByteArray) : Prop where
  tp : M.OwnT w lo w.heap.size (.slice (some ⟨g, 0, none⟩) n cap) qs
  pt : M.OwnPt w lo pv ps
  sd : M.aside (.slice (some ⟨g, 0, none⟩) n cap) qs pv
  rs : M.Rest w rb rv bs
  rl : ∀ b, rb = some b → b < w.heap.size
  ro : ∀ b, rb = some b → M.offT (.slice (some ⟨g, 0, none⟩) n cap) qs b ∧ pv.ownBlock ≠ some b
theorem M.WrW.below {w W : World} {lo g n cap : Nat} {pv rv : Value} {rb : Option Nat} {qs : List (M.TapeD × Value)} {ps : List M.PartD} {bs : List ByteArray} (h : M.WrW w lo g n cap pv rv rb qs ps bs) (hb : Below w.heap.size w W) : M.WrW W lo g n cap pv rv rb qs ps bs :=
  ⟨(h.tp.below hb).widen (Nat.le_refl _) hb.size, h.pt.below hb, h.sd, h.rs.below hb, fun b e => Nat.lt_of_lt_of_le (h.rl b e) hb.size, h.ro⟩
theorem M.WrW.drop {w : World} {lo g n cap m k c : Nat} {a : Option Addr} {pv : Value} {rb : Option Nat} {qs : List (M.TapeD × Value)} {ps : List M.PartD} {bs : List ByteArray} (h : M.WrW w lo g n cap pv (.slice a m c) rb qs ps bs) (hk : k ≤ m) : M.WrW w lo g n cap pv (sliced a k m c 1) rb qs ps (bs.drop k) :=
  ⟨h.tp, h.pt, h.sd, h.rs.drop hk, h.rl, h.ro⟩
/-- The parts grew by one. -/
theorem M.WrW.part {w W : World} {lo g n cap : Nat} {pv pv' rv : Value} {rb : Option Nat} {qs : List (M.TapeD × Value)} {ps ps' : List M.PartD} {bs : List ByteArray} (h : M.WrW w lo g n cap pv rv rb qs ps bs) (hp : M.OwnPt W lo pv' ps') (hg : w.grownBy W pv.ownBlock) (hloc : pv'.ownBlock = pv.ownBlock ∨ ∀ b, pv'.ownBlock = some b → w.heap.size ≤ b) : M.WrW W lo g n cap pv' rv rb qs ps' bs := by
  refine ⟨(h.tp.grown h.sd hg).widen (Nat.le_refl _) hg.size, hp, h.tp.asideNew h.sd (Nat.le_refl _) hloc, h.rs.keptAt (fun b e hb => hg.block b hb (fun e2 => (h.ro b e).2 e2.symm)), fun b e => Nat.lt_of_lt_of_le (h.rl b e) hg.size, fun b e => ⟨(h.ro b e).1, fun e2 => ?_⟩⟩
  rcases hloc with e3 | e3
  · rw [e3] at e2; exact (h.ro b e).2 e2
  · have := e3 b e2
    have := h.rl b e
    omega
/-- One tape's blocks grew, and its cell is stored. -/
theorem M.WrW.tape {w W : World} {lo g n cap k : Nat} {pv rv u : Value} {rb : Option Nat} {qs : List (M.TapeD × Value)} {ps : List M.PartD} {bs ss : List ByteArray} {p : M.TapeD × Value} (h : M.WrW w lo g n cap pv rv rb qs ps bs) (hk : qs[k]? = some p) (hg : w.grownBy W p.2.ownBlock) (ho : M.OwnS W lo u ss) (hloc : u.ownBlock = p.2.ownBlock ∨ ∀ b, u.ownBlock = some b → w.heap.size ≤ b) :
    M.WrW (W.setCell ⟨g, k * 4 + 1, none⟩ u) lo g n cap pv rv rb (qs.take k ++ (⟨p.1.lab, ss, p.1.syn, p.1.room⟩, u) :: qs.drop (k + 1)) ps bs := by
  have hpm := List.mem_of_getElem? hk
  have hset : ∀ b, (Value.slice (some ⟨g, 0, none⟩) n cap).ownBlock ≠ some b → (W.setCell ⟨g, k * 4 + 1, none⟩ u).heap[b]? = W.heap[b]? := fun b hb => by
    have hne : g ≠ b := fun e => hb (by rw [e]; rfl)
    simp only [World.setCell, Array.getElem?_modify]
    rw [if_neg hne]
  have hsz : (W.setCell ⟨g, k * 4 + 1, none⟩ u).heap.size = W.heap.size := by simp [World.setCell]
  refine ⟨by rw [hsz]; exact h.tp.app hk hg (Nat.le_refl _) ho hloc, (h.pt.grownT h.sd hpm hg).setT h.sd _ _, M.aside_app h.pt h.sd hk rfl hloc, h.rs.keptAt (fun b e hb => (hset b (h.ro b e).1.1).trans (hg.block b hb (fun e2 => (h.ro b e).1.2 p hpm e2.symm))), fun b e => by rw [hsz]; exact Nat.lt_of_lt_of_le (h.rl b e) hg.size, fun b e => ⟨⟨(h.ro b e).1.1, fun r hr => ?_⟩, (h.ro b e).2⟩⟩
  rcases List.mem_append.1 hr with h3 | h3
  · exact (h.ro b e).1.2 r (List.mem_of_mem_take h3)
  · rcases List.mem_cons.1 h3 with rfl | h4
    · rcases hloc with e3 | e3
      · show u.ownBlock ≠ some b
        rw [e3]; exact (h.ro b e).1.2 p hpm
      · intro e2
        have h5 := e3 b e2
        have h6 := h.rl b e
        omega
    · exact (h.ro b e).1.2 r (List.mem_of_mem_drop h4)
/-- A box lies in none of the rows. -/
theorem M.WrW.box {w : World} {lo g n cap : Nat} {pv rv : Value} {rb : Option Nat} {qs : List (M.TapeD × Value)} {ps : List M.PartD} {bs : List ByteArray} (h : M.WrW w lo g n cap pv rv rb qs ps bs) {B : Nat} {c : Array Value} {T : TypeId} {fr : Nat × Nat} (hB : w.heap[B]? = some (.cells c T fr)) (h1 : T ≠ 36) (h2 : T ≠ 47) (h3 : T ≠ 9) : g ≠ B ∧ pv.ownBlock ≠ some B ∧ ∀ p ∈ qs, p.2.ownBlock ≠ some B :=
  ⟨fun e => M.row_notType h.tp.row hB h1 (by rw [e]; rfl), M.row_notType h.pt hB h2, fun p hp => M.row_notType (h.tp.each p hp).1 hB h3⟩
/-- What a step makes of the numbers: the tape at its number, and the fold. -/
theorem M.wr_at {x : M.WrS} {ts : List M.TapeD} {ns : List Int} {k j : Nat} {qs : List (M.TapeD × Value)} (hx : x.ts = ts) (hq : qs.map Prod.fst = (M.wr x (ns.take k)).ts) (hj : j < ts.length) : ∃ t u, qs[j]? = some (t, u) ∧ (M.wr x (ns.take k)).ts[j]? = some t := by
  have hl : qs.length = ts.length := by
    have := congrArg List.length hq
    rw [List.length_map, M.wr_len, hx] at this
    exact this
  have hjq : j < qs.length := by omega
  refine ⟨qs[j].1, qs[j].2, List.getElem?_eq_getElem hjq, ?_⟩
  rw [← hq, List.getElem?_map, List.getElem?_eq_getElem hjq]
  rfl
theorem M.map_put {qs : List (M.TapeD × Value)} {ts : List M.TapeD} {j : Nat} {t : M.TapeD} {u : Value} (h : qs.map Prod.fst = ts) (hj : j < ts.length) : (qs.take j ++ (t, u) :: qs.drop (j + 1)).map Prod.fst = ts.set j t := by
  rw [← h, List.map_append, List.map_cons, List.map_take, List.map_drop, List.set_eq_take_append_cons_drop, if_pos (by rw [h]; exact hj)]
end Go.Proofs.Ytappficbjjkmiaa
