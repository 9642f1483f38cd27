/-
  Tapes as data: rows of them in memory, right tapes; an argument that is a slice of tapes, opened.
-/
import Derived.Test.YtmafkcnnhkkleaaLinkMath
namespace Go.Proofs.Ytmafkcnnhkkleaa
open Go.ChangeShapes Go.WideShapes Go.Deep Go.RowKit

/-- A tape as data. -/
structure M.TapeD where
  lab : Int
  ss : List ByteArray
  syn : Int
  room : Int

/-- A tape in memory, from a place on. -/
def M.TpAt (w : World) (b off : Nat) (t : M.TapeD) : Prop :=
  w.cell? ⟨b, off, none⟩ = some (.int .i64 t.lab) ∧ (∃ a n c, w.cell? ⟨b, off + 1, none⟩ = some (.slice a n c) ∧ M.Strs w a n c t.ss ∧ (a = none → c = 0)) ∧
  w.cell? ⟨b, off + 2, none⟩ = some (.int .i64 t.syn) ∧ w.cell? ⟨b, off + 3, none⟩ = some (.int .i64 t.room)
/-- Tapes in a row from a place on. -/
def M.TpsAt (w : World) (b off : Nat) (ts : List M.TapeD) : Prop := ∀ i (h : i < ts.length), M.TpAt w b (off + i * 4) ts[i]
/-- A slice of tapes. -/
def M.Tps (w : World) (a : Option Addr) (len cap : Nat) (ts : List M.TapeD) : Prop :=
  len = ts.length ∧ len ≤ cap ∧ cap ≤ maxLen ∧ (0 < len → ∃ b off, a = some ⟨b, off, none⟩ ∧ M.TpsAt w b off ts)
/-- What every tape that came in keeps. -/
def M.tok (t : M.TapeD) : Prop := (∀ s ∈ t.ss, s.size ≤ maxLen) ∧ (-9223372036854775808 ≤ t.lab ∧ t.lab ≤ 9223372036854775807) ∧ (-9223372036854775808 ≤ t.syn ∧ t.syn ≤ 9223372036854775807) ∧ (-9223372036854775808 ≤ t.room ∧ t.room ≤ 9223372036854775807)

theorem M.TpAt.below {w w' : World} {b off : Nat} {t : M.TapeD} (h : M.TpAt w b off t) (hb : Below w.heap.size w w') : M.TpAt w' b off t := by
  obtain ⟨h0, ⟨a, n, c, h1, hs, hz⟩, h2, h3⟩ := h
  have hB := hb.block b (World.block_lt_of_cell? w _ h0)
  exact ⟨(World.cell?_of_block (a := ⟨b, off, none⟩) hB).trans h0, ⟨a, n, c, (World.cell?_of_block (a := ⟨b, off + 1, none⟩) hB).trans h1, hs.below hb, hz⟩, (World.cell?_of_block (a := ⟨b, off + 2, none⟩) hB).trans h2, (World.cell?_of_block (a := ⟨b, off + 3, none⟩) hB).trans h3⟩
theorem M.TpsAt.below {w w' : World} {b off : Nat} {ts : List M.TapeD} (h : M.TpsAt w b off ts) (hb : Below w.heap.size w w') : M.TpsAt w' b off ts := fun i hi => (h i hi).below hb
theorem M.Tps.below {w w' : World} {a : Option Addr} {len cap : Nat} {ts : List M.TapeD} (h : M.Tps w a len cap ts) (hb : Below w.heap.size w w') : M.Tps w' a len cap ts := by
  obtain ⟨h1, h2, h3, h4⟩ := h
  refine ⟨h1, h2, h3, fun hl => ?_⟩
  obtain ⟨b, off, rfl, hf⟩ := h4 hl
  exact ⟨b, off, rfl, hf.below hb⟩
theorem M.Tps.max {w : World} {a : Option Addr} {len cap : Nat} {ts : List M.TapeD} (h : M.Tps w a len cap ts) : len ≤ 9223372036854775807 := by
  obtain ⟨_, h1, h2, _⟩ := h; unfold maxLen at h2; omega
theorem M.Strs.max {w : World} {a : Option Addr} {len cap : Nat} {ts : List ByteArray} (h : M.Strs w a len cap ts) : len ≤ 9223372036854775807 := by
  obtain ⟨_, h1, h2, _⟩ := h; unfold maxLen at h2; omega
/-- One tape of a slice. -/
theorem M.Tps.at {w : World} {a : Option Addr} {len cap k : Nat} {ts : List M.TapeD} (h : M.Tps w a len cap ts) (hk : k < len) : ∃ b off t, a = some ⟨b, off, none⟩ ∧ ts[k]? = some t ∧ M.TpAt w b (off + k * 4) t := by
  obtain ⟨h1, -, -, h4⟩ := h
  obtain ⟨b, off, rfl, hf⟩ := h4 (by omega)
  exact ⟨b, off, ts[k]'(by omega), rfl, List.getElem?_eq_getElem (by omega), hf k (by omega)⟩

/-- A right tape. -/
def M.tapeR (t : M.TapeD) : Bool := decide (0 ≤ t.lab ∧ t.lab ≤ 1000000) && decide (0 ≤ t.room ∧ t.room ≤ 300) && decide ((t.ss.length : Int) ≤ t.room) && decide (0 ≤ t.syn ∧ t.syn ≤ (t.ss.length : Int)) && t.ss.all fun s => decide (s.size = 64)
/-- Right tapes. -/
def M.tapesR (ts : List M.TapeD) : Bool := decide (1 ≤ ts.length ∧ ts.length ≤ 8) && ts.all M.tapeR
theorem M.tapeR_iff {t : M.TapeD} : M.tapeR t = true ↔ (0 ≤ t.lab ∧ t.lab ≤ 1000000) ∧ (0 ≤ t.room ∧ t.room ≤ 300) ∧ (t.ss.length : Int) ≤ t.room ∧ (0 ≤ t.syn ∧ t.syn ≤ (t.ss.length : Int)) ∧ ∀ s ∈ t.ss, s.size = 64 := by
  unfold M.tapeR
  simp only [Bool.and_eq_true, decide_eq_true_eq, List.all_eq_true, and_assoc]
theorem M.tapesR_iff {ts : List M.TapeD} : M.tapesR ts = true ↔ (1 ≤ ts.length ∧ ts.length ≤ 8) ∧ ∀ t ∈ ts, M.tapeR t = true := by
  unfold M.tapesR
  simp only [Bool.and_eq_true, decide_eq_true_eq, List.all_eq_true]

theorem M.open_strs0 {H : Type} {enc : TypeId × Value → H} {P : Program} {w : World} {base : Nat} {spare : Nat → Bool} {held : Bool} {t e : TypeId} {fuel : Nat} {cs : List Value} {x : DataW H × List MemPlace}
    (ht : P.underlying t = some (.slice e)) (he : P.underlying e = some .string) (ce : P.cellsOf e = 1) (h : DataW.trod enc P w base spare held fuel t cs = some x) :
    ∃ (a : Option Addr) (len cap : Nat) (ss : List ByteArray), cs = [.slice a len cap] ∧ M.Strs w a len cap ss ∧ (∀ s ∈ ss, s.size ≤ maxLen) ∧ (a = none → cap = 0) := by
  obtain ⟨a, n, c, ss, e0, hs, hok⟩ := M.open_strs ht he ce h
  refine ⟨a, n, c, ss, e0, hs, hok, fun ha => ?_⟩
  rcases open_slice ht h with ⟨h0, _⟩ | ⟨a', len, cap, m, n', D, Pl, h0, _⟩
  · rw [e0] at h0
    have := List.singleton_inj.1 h0
    cases this
    rfl
  · rw [e0] at h0
    have := List.singleton_inj.1 h0
    cases this
    cases ha
theorem M.open_tapes {H : Type} {enc : TypeId × Value → H} {P : Program} {w : World} {base : Nat} {spare : Nat → Bool} {held : Bool} {t e es : TypeId} {f0 f1 f2 f3 : Field} {fuel : Nat} {cs : List Value} {x : DataW H × List MemPlace}
    (ht : P.underlying t = some (.slice e)) (he : P.underlying e = some (.struct #[f0, f1, f2, f3])) (ce : P.cellsOf e = 4)
    (o0 : f0.offset = 0) (o1 : f1.offset = 1) (o2 : f2.offset = 2) (o3 : f3.offset = 3)
    (c0 : P.cellsOf f0.type = 1) (c1 : P.cellsOf f1.type = 1) (c2 : P.cellsOf f2.type = 1) (c3 : P.cellsOf f3.type = 1)
    (u0 : P.underlying f0.type = some (.int .i64)) (u1 : P.underlying f1.type = some (.slice es)) (hes : P.underlying es = some .string) (ces : P.cellsOf es = 1) (u2 : P.underlying f2.type = some (.int .i64)) (u3 : P.underlying f3.type = some (.int .i64))
    (h : DataW.trod enc P w base spare held fuel t cs = some x) :
    ∃ (a : Option Addr) (len cap : Nat) (ts : List M.TapeD), cs = [.slice a len cap] ∧ M.Tps w a len cap ts ∧ ∀ t ∈ ts, M.tok t := by
  rcases open_slice ht h with ⟨h0, _⟩ | ⟨a, len, cap, m, n, D, Pl, rfl, hb, hl, hm, hmm, rfl, hx⟩
  · exact ⟨none, 0, 0, [], h0, ⟨rfl, Nat.le_refl _, Nat.zero_le _, fun h => absurd h (Nat.lt_irrefl _)⟩, fun f hf => by simp at hf⟩
  have hlm : len ≤ m := by rw [hmm]; split <;> omega
  have each : ∀ i, i < len → ∃ f : M.TapeD, w.cell? (a.add (i * 4)) = some (.int .i64 f.lab) ∧ (∃ a' n' c', w.cell? (a.add (i * 4 + 1)) = some (.slice a' n' c') ∧ M.Strs w a' n' c' f.ss ∧ (a' = none → c' = 0)) ∧ w.cell? (a.add (i * 4 + 2)) = some (.int .i64 f.syn) ∧
      w.cell? (a.add (i * 4 + 3)) = some (.int .i64 f.room) ∧ M.tok f := by
    intro i hi
    obtain ⟨cs', h1, h2⟩ := hx i (by omega)
    rw [ce] at h1
    obtain ⟨_, hlen, hcell⟩ := World.cells?_some h1
    obtain ⟨xs, k, hk, hxy, _, hxl, hf⟩ := DataW.trod_struct he h2
    match xs, hxl, cs', hlen with
    | [y0, y1, y2, y3], _, [v0, v1, v2, v3], _ =>
      have g0 := hf 0 f0 rfl
      have g1 := hf 1 f1 rfl
      have g2 := hf 2 f2 rfl
      have g3 := hf 3 f3 rfl
      simp [o0, o1, o2, o3, c0, c1, c2, c3] at g0 g1 g2 g3
      obtain ⟨la, e0, _, hla⟩ := DataW.trod_int u0 g0
      obtain ⟨a', n', c', ss, e1, hss, hok, hnz⟩ := M.open_strs0 u1 hes ces g1
      obtain ⟨sy, e2, _, hsy⟩ := DataW.trod_int u2 g2
      obtain ⟨ro, e3, _, hro⟩ := DataW.trod_int u3 g3
      obtain rfl := List.singleton_inj.1 e0
      obtain rfl := List.singleton_inj.1 e1
      obtain rfl := List.singleton_inj.1 e2
      obtain rfl := List.singleton_inj.1 e3
      have r0 := hcell 0 (by omega)
      have r1 := hcell 1 (by omega)
      have r2 := hcell 2 (by omega)
      have r3 := hcell 3 (by omega)
      rw [add_add] at r0 r1 r2 r3
      exact ⟨⟨la, ss, sy, ro⟩, by simpa using r0, ⟨a', n', c', by simpa using r1, hss, hnz⟩, by simpa using r2, by simpa using r3, hok, M.wf_i64 hla, M.wf_i64 hsy, M.wf_i64 hro⟩
  have hin : Inhabited M.TapeD := ⟨⟨0, [], 0, 0⟩⟩
  obtain ⟨F, hF⟩ := choose_lt each
  refine ⟨some a, len, cap, (List.range len).map F, rfl, ⟨by simp, hl, hm, fun hpos => ?_⟩, fun f hf => ?_⟩
  · have hs : a.spot = none := by
      have h0 := (hF 0 hpos).1
      simp only [Nat.zero_mul, Addr.add, if_pos] at h0
      unfold World.cell? at h0
      split at h0
      · cases hq : a.spot with
        | none => rfl
        | some q => simp [hq] at h0
      · cases h0
    obtain ⟨b, off, spot⟩ := a
    simp only at hs
    subst hs
    have ad : ∀ q, (⟨b, off, none⟩ : Addr).add q = ⟨b, off + q, none⟩ := fun q => by
      unfold Addr.add
      split
      · next h => subst h; rfl
      · rfl
    refine ⟨b, off, rfl, fun i hi => ?_⟩
    have hi' : i < len := by simpa using hi
    obtain ⟨r0, ⟨a', n', c', r1, hss, hnz⟩, r2, r3, _⟩ := hF i hi'
    simp only [ad] at r0 r1 r2 r3
    simp only [List.getElem_map, List.getElem_range]
    exact ⟨r0, ⟨a', n', c', by simpa [Nat.add_assoc] using r1, hss, hnz⟩, by simpa [Nat.add_assoc] using r2, by simpa [Nat.add_assoc] using r3⟩
  · obtain ⟨i, hi, rfl⟩ := List.mem_map.1 hf
    exact (hF i (List.mem_range.1 hi)).2.2.2.2
end Go.Proofs.Ytmafkcnnhkkleaa
