/-
  Chapter 7 as mathematics: pieces that fit, right senders and receivers; arguments that are senders, receivers, packets, opened.
-/
import Derived.Test.YtappficbjjkmiaaPart3
import Derived.WalkKit
import Derived.Below
namespace Go.Proofs.Ytappficbjjkmiaa
open Go.ChangeShapes Go.WideShapes Go.Deep Go.RowKit

theorem M.hl {p : Prop} (h : p) : Hid p := h
theorem M.sl {a w v : World} (h : Below a.heap.size a w) (h' : Below w.heap.size w v) : Below a.heap.size a v := h.trans (h'.mono h.size)

/-- At most 300 pieces of at most 64 bytes. -/
def M.fits (ss : List ByteArray) : Bool := decide (ss.length ≤ 300) && ss.all fun s => decide (s.size ≤ 64)
/-- Each of just 64 bytes. -/
def M.full (ss : List ByteArray) : Bool := ss.all fun s => decide (s.size = 64)
/-- A right sender. -/
def M.sndR (ss : List ByteArray) (x d t : Int) : Bool := decide (1 ≤ ss.length) && M.fits ss && decide (0 ≤ x ∧ x ≤ (ss.length : Int)) && decide (0 ≤ d ∧ d ≤ 2000000000) && decide (1 ≤ t ∧ t ≤ 64)
/-- A right receiver. -/
def M.rcvR (ss : List ByteArray) (x : Int) : Bool := M.fits ss && (if x = -1 then decide (0 < ss.length) && M.full ss.dropLast else decide (x = (ss.length : Int)) && M.full ss)

theorem M.fits_long {ss : List ByteArray} (h : 300 < ss.length) : M.fits ss = false := by
  unfold M.fits; rw [decide_eq_false (by omega), Bool.false_and]
theorem M.fits_bad {ss : List ByteArray} {k : Nat} {s : ByteArray} (h : ss[k]? = some s) (hs : 64 < s.size) : M.fits ss = false := by
  unfold M.fits
  rw [Bool.and_eq_false_iff]
  right
  rw [List.all_eq_false]
  exact ⟨s, List.mem_of_getElem? h, by simp; omega⟩
theorem M.fits_ok {ss : List ByteArray} (h : ss.length ≤ 300) (ha : ∀ s ∈ ss, s.size ≤ 64) : M.fits ss = true := by
  unfold M.fits
  rw [decide_eq_true h, Bool.true_and, List.all_eq_true]
  intro s hs
  exact decide_eq_true (ha s hs)
theorem M.fits_iff {ss : List ByteArray} : M.fits ss = true ↔ ss.length ≤ 300 ∧ ∀ s ∈ ss, s.size ≤ 64 := by
  unfold M.fits; simp
theorem M.full_bad {ss : List ByteArray} {k : Nat} {s : ByteArray} (h : ss[k]? = some s) (hs : s.size ≠ 64) : M.full ss = false := by
  unfold M.full
  rw [List.all_eq_false]
  exact ⟨s, List.mem_of_getElem? h, by simpa using hs⟩
theorem M.full_iff {ss : List ByteArray} : M.full ss = true ↔ ∀ s ∈ ss, s.size = 64 := by
  unfold M.full; simp
theorem M.forall_snoc {p : ByteArray → Prop} {ss : List ByteArray} {k : Nat} {s : ByteArray} (h : ∀ t ∈ ss.take k, p t) (hk : ss[k]? = some s) (hs : p s) : ∀ t ∈ ss.take (k + 1), p t := by
  rw [M.take_snocS hk]
  intro t ht
  rcases List.mem_append.1 ht with h' | h'
  · exact h t h'
  · obtain rfl := List.mem_singleton.1 h'; exact hs
theorem M.Strs.pre {w : World} {a : Option Addr} {len cap : Nat} {ss : List ByteArray} (h : M.Strs w a len cap ss) (k : Nat) (hk : k ≤ len) : M.Strs w a k cap (ss.take k) := by
  obtain ⟨h1, h2, h3, h4⟩ := h
  refine ⟨by rw [List.length_take]; omega, by omega, h3, fun hl => ?_⟩
  obtain ⟨b, off, rfl, hf⟩ := h4 (by omega)
  refine ⟨b, off, rfl, fun i hi => ?_⟩
  rw [List.length_take] at hi
  rw [List.getElem_take]
  exact hf i (by omega)

/-- What the specification's loop asks of each piece that a receiver has. -/
def M.okAt (n : Nat) (x : Int) (i : Nat) (s : ByteArray) : Prop := s.size ≤ 64 ∧ (s.size < 64 → ¬ i < n - 1 ∧ x = -1)
theorem M.rcvR_iff {ss : List ByteArray} {x : Int} : M.rcvR ss x = true ↔ ss.length ≤ 300 ∧ (x = (ss.length : Int) ∨ x = -1 ∧ ss.length ≠ 0) ∧ ∀ i s, ss[i]? = some s → M.okAt ss.length x i s := by
  unfold M.rcvR
  rw [Bool.and_eq_true, M.fits_iff]
  by_cases hx : x = -1
  · subst hx
    rw [if_pos rfl, Bool.and_eq_true, M.full_iff, decide_eq_true_eq]
    constructor
    · rintro ⟨⟨h1, h2⟩, h3, h4⟩
      refine ⟨h1, .inr ⟨rfl, by omega⟩, fun i s hi => ⟨h2 s (List.mem_of_getElem? hi), fun hs => ⟨fun hl => ?_, rfl⟩⟩⟩
      have : s ∈ ss.dropLast := by
        rw [List.dropLast_eq_take]
        apply List.mem_of_getElem? (i := i)
        rw [List.getElem?_take_of_lt hl]
        exact hi
      have := h4 s this
      omega
    · rintro ⟨h1, h2, h3⟩
      have hn : ss.length ≠ 0 := by
        rcases h2 with h | h
        · omega
        · exact h.2
      refine ⟨⟨h1, fun s hs => ?_⟩, by omega, fun s hs => ?_⟩
      · obtain ⟨i, hi⟩ := List.getElem?_of_mem hs
        exact (h3 i s hi).1
      · rw [List.dropLast_eq_take] at hs
        obtain ⟨i, hi⟩ := List.getElem?_of_mem hs
        rw [List.getElem?_take] at hi
        split at hi
        · next hl =>
          have := h3 i s hi
          have h5 := this.1
          by_cases h6 : s.size < 64
          · exact absurd hl (this.2 h6).1
          · omega
        · cases hi
  · rw [if_neg hx, Bool.and_eq_true, M.full_iff, decide_eq_true_eq]
    constructor
    · rintro ⟨⟨h1, h2⟩, h3, h4⟩
      refine ⟨h1, .inl h3, fun i s hi => ⟨h2 s (List.mem_of_getElem? hi), fun hs => ?_⟩⟩
      have := h4 s (List.mem_of_getElem? hi)
      omega
    · rintro ⟨h1, h2, h3⟩
      have he : ∀ s ∈ ss, s.size = 64 := fun s hs => by
        obtain ⟨i, hi⟩ := List.getElem?_of_mem hs
        have := h3 i s hi
        have h5 := this.1
        by_cases h6 : s.size < 64
        · exact absurd (this.2 h6).2 hx
        · omega
      refine ⟨⟨h1, fun s hs => by have := he s hs; omega⟩, ?_, he⟩
      rcases h2 with h | h
      · exact h
      · exact absurd h.1 hx

/-- An argument that is a receiver: a slice of texts and a number. -/
theorem M.open_recv {H : Type} {enc : TypeId × Value → H} {P : Program} {w : World} {base : Nat} {spare : Nat → Bool} {held : Bool} {t es : TypeId} {g0 g1 : Field} {fuel : Nat} {cs : List Value} {x : DataW H × List MemPlace}
    (ht : P.underlying t = some (.struct #[g0, g1])) (ct : P.cellsOf t = 2) (p0 : g0.offset = 0) (p1 : g1.offset = 1) (k0 : P.cellsOf g0.type = 1) (k1 : P.cellsOf g1.type = 1)
    (hs : P.underlying g0.type = some (.slice es)) (hes : P.underlying es = some .string) (ces : P.cellsOf es = 1) (hi : P.underlying g1.type = some (.int .i64))
    (h : DataW.trod enc P w base spare held fuel t cs = some x) :
    ∃ (a : Option Addr) (n c : Nat) (ss : List ByteArray) (x : Int), cs = [.slice a n c, .int .i64 x] ∧ M.Strs w a n c ss ∧ (∀ s ∈ ss, s.size ≤ maxLen) ∧ -9223372036854775808 ≤ x ∧ x ≤ 9223372036854775807 := by
  obtain ⟨xs, n, hn, hxy, hlen, hxl, hx⟩ := DataW.trod_struct ht h
  rw [ct] at hlen
  match xs, hxl, cs, hlen with
  | [y0, y1], _, [v0, v1], _ =>
    have r0 := hx 0 g0 rfl
    have r1 := hx 1 g1 rfl
    simp [p0, p1, k0, k1] at r0 r1
    obtain ⟨a, n1, c, ss, e0, hss, hok⟩ := M.open_strs hs hes ces r0
    obtain ⟨x1, e1, _, hx1⟩ := DataW.trod_int hi r1
    obtain rfl := List.singleton_inj.1 e0
    obtain rfl := List.singleton_inj.1 e1
    have w1 := M.wf_i64 hx1
    exact ⟨a, n1, c, ss, x1, rfl, hss, hok, w1.1, w1.2⟩
/-- An argument that is a sender: a slice of texts and three numbers. -/
theorem M.open_send {H : Type} {enc : TypeId × Value → H} {P : Program} {w : World} {base : Nat} {spare : Nat → Bool} {held : Bool} {t es : TypeId} {g0 g1 g2 g3 : Field} {fuel : Nat} {cs : List Value} {x : DataW H × List MemPlace}
    (ht : P.underlying t = some (.struct #[g0, g1, g2, g3])) (ct : P.cellsOf t = 4) (p0 : g0.offset = 0) (p1 : g1.offset = 1) (p2 : g2.offset = 2) (p3 : g3.offset = 3) (k0 : P.cellsOf g0.type = 1) (k1 : P.cellsOf g1.type = 1) (k2 : P.cellsOf g2.type = 1) (k3 : P.cellsOf g3.type = 1)
    (hs : P.underlying g0.type = some (.slice es)) (hes : P.underlying es = some .string) (ces : P.cellsOf es = 1) (h1 : P.underlying g1.type = some (.int .i64)) (h2 : P.underlying g2.type = some (.int .i64)) (h3 : P.underlying g3.type = some (.int .i64))
    (h : DataW.trod enc P w base spare held fuel t cs = some x) :
    ∃ (a : Option Addr) (n c : Nat) (ss : List ByteArray) (x d t : Int), cs = [.slice a n c, .int .i64 x, .int .i64 d, .int .i64 t] ∧ M.Strs w a n c ss ∧ (∀ s ∈ ss, s.size ≤ maxLen) ∧ (-9223372036854775808 ≤ x ∧ x ≤ 9223372036854775807) ∧ (-9223372036854775808 ≤ d ∧ d ≤ 9223372036854775807) ∧ (-9223372036854775808 ≤ t ∧ t ≤ 9223372036854775807) := by
  obtain ⟨xs, n, hn, hxy, hlen, hxl, hx⟩ := DataW.trod_struct ht h
  rw [ct] at hlen
  match xs, hxl, cs, hlen with
  | [y0, y1, y2, y3], _, [v0, v1, v2, v3], _ =>
    have r0 := hx 0 g0 rfl
    have r1 := hx 1 g1 rfl
    have r2 := hx 2 g2 rfl
    have r3 := hx 3 g3 rfl
    simp [p0, p1, p2, p3, k0, k1, k2, k3] at r0 r1 r2 r3
    obtain ⟨a, n1, c, ss, e0, hss, hok⟩ := M.open_strs hs hes ces r0
    obtain ⟨x1, e1, _, hx1⟩ := DataW.trod_int h1 r1
    obtain ⟨x2, e2, _, hx2⟩ := DataW.trod_int h2 r2
    obtain ⟨x3, e3, _, hx3⟩ := DataW.trod_int h3 r3
    obtain rfl := List.singleton_inj.1 e0
    obtain rfl := List.singleton_inj.1 e1
    obtain rfl := List.singleton_inj.1 e2
    obtain rfl := List.singleton_inj.1 e3
    exact ⟨a, n1, c, ss, x1, x2, x3, rfl, hss, hok, M.wf_i64 hx1, M.wf_i64 hx2, M.wf_i64 hx3⟩
/-- An argument that is a packet: a number, a truth, a text, a number. -/
theorem M.open_pack {H : Type} {enc : TypeId × Value → H} {P : Program} {w : World} {base : Nat} {spare : Nat → Bool} {held : Bool} {t : TypeId} {g0 g1 g2 g3 : Field} {fuel : Nat} {cs : List Value} {x : DataW H × List MemPlace}
    (ht : P.underlying t = some (.struct #[g0, g1, g2, g3])) (ct : P.cellsOf t = 4) (p0 : g0.offset = 0) (p1 : g1.offset = 1) (p2 : g2.offset = 2) (p3 : g3.offset = 3) (k0 : P.cellsOf g0.type = 1) (k1 : P.cellsOf g1.type = 1) (k2 : P.cellsOf g2.type = 1) (k3 : P.cellsOf g3.type = 1)
    (h0 : P.underlying g0.type = some (.int .i64)) (h1 : P.underlying g1.type = some .bool) (h2 : P.underlying g2.type = some .string) (h3 : P.underlying g3.type = some (.int .i64))
    (h : DataW.trod enc P w base spare held fuel t cs = some x) :
    ∃ (q : Int) (l : Bool) (s : ByteArray) (c : Int), cs = [.int .i64 q, .bool l, .string s, .int .i64 c] ∧ (-9223372036854775808 ≤ q ∧ q ≤ 9223372036854775807) ∧ s.size ≤ maxLen ∧ (-9223372036854775808 ≤ c ∧ c ≤ 9223372036854775807) := by
  obtain ⟨xs, n, hn, hxy, hlen, hxl, hx⟩ := DataW.trod_struct ht h
  rw [ct] at hlen
  match xs, hxl, cs, hlen with
  | [y0, y1, y2, y3], _, [v0, v1, v2, v3], _ =>
    have r0 := hx 0 g0 rfl
    have r1 := hx 1 g1 rfl
    have r2 := hx 2 g2 rfl
    have r3 := hx 3 g3 rfl
    simp [p0, p1, p2, p3, k0, k1, k2, k3] at r0 r1 r2 r3
    obtain ⟨x0, e0, _, hx0⟩ := DataW.trod_int h0 r0
    obtain ⟨x1, e1, _⟩ := DataW.trod_bool h1 r1
    obtain ⟨x2, e2, _, hx2⟩ := DataW.trod_string h2 r2
    obtain ⟨x3, e3, _, hx3⟩ := DataW.trod_int h3 r3
    obtain rfl := List.singleton_inj.1 e0
    obtain rfl := List.singleton_inj.1 e1
    obtain rfl := List.singleton_inj.1 e2
    obtain rfl := List.singleton_inj.1 e3
    exact ⟨x0, x1, x2, x3, rfl, M.wf_i64 hx0, hx2, M.wf_i64 hx3⟩
end Go.Proofs.Ytappficbjjkmiaa

/-
  Tapes as data: rows of them in memory, right tapes; an argument that is a slice of tapes, opened.
-/
namespace Go.Proofs.Ytappficbjjkmiaa
open Go.ChangeShapes Go.WideShapes Go.Deep Go.RowKit

/-- A tape as data. -/
structure M.TapeD where
  lab : Int
  ss : List ByteArray
  syn : Int
  room : Int

/-- A tape in memory, from a place on. -/
def M.TpAt (w : World) (b off : Nat) (t : M.TapeD) : Prop :=
  w.cell? ⟨b, off, none⟩ = some (.int .i64 t.lab) ∧ (∃ a n c, w.cell? ⟨b, off + 1, none⟩ = some (.slice a n c) ∧ M.Strs w a n c t.ss ∧ (a = none → c = 0)) ∧
  w.cell? ⟨b, off + 2, none⟩ = some (.int .i64 t.syn) ∧ w.cell? ⟨b, off + 3, none⟩ = some (.int .i64 t.room)
/-- Tapes in a row from a place on. -/
def M.TpsAt (w : World) (b off : Nat) (ts : List M.TapeD) : Prop := ∀ i (h : i < ts.length), M.TpAt w b (off + i * 4) ts[i]
/-- A slice of tapes. -/
def M.Tps (w : World) (a : Option Addr) (len cap : Nat) (ts : List M.TapeD) : Prop :=
  len = ts.length ∧ len ≤ cap ∧ cap ≤ maxLen ∧ (0 < len → ∃ b off, a = some ⟨b, off, none⟩ ∧ M.TpsAt w b off ts)
/-- What every tape that came in keeps. -/
def M.tok (t : M.TapeD) : Prop := (∀ s ∈ t.ss, s.size ≤ maxLen) ∧ (-9223372036854775808 ≤ t.lab ∧ t.lab ≤ 9223372036854775807) ∧ (-9223372036854775808 ≤ t.syn ∧ t.syn ≤ 9223372036854775807) ∧ (-9223372036854775808 ≤ t.room ∧ t.room ≤ 9223372036854775807)

theorem M.TpAt.below {w w' : World} {b off : Nat} {t : M.TapeD} (h : M.TpAt w b off t) (hb : Below w.heap.size w w') : M.TpAt w' b off t := by
  obtain ⟨h0, ⟨a, n, c, h1, hs, hz⟩, h2, h3⟩ := h
  have hB := hb.block b (World.block_lt_of_cell? w _ h0)
  exact ⟨(World.cell?_of_block (a := ⟨b, off, none⟩) hB).trans h0, ⟨a, n, c, (World.cell?_of_block (a := ⟨b, off + 1, none⟩) hB).trans h1, hs.below hb, hz⟩, (World.cell?_of_block (a := ⟨b, off + 2, none⟩) hB).trans h2, (World.cell?_of_block (a := ⟨b, off + 3, none⟩) hB).trans h3⟩
theorem M.TpsAt.below {w w' : World} {b off : Nat} {ts : List M.TapeD} (h : M.TpsAt w b off ts) (hb : Below w.heap.size w w') : M.TpsAt w' b off ts := fun i hi => (h i hi).below hb
theorem M.Tps.below {w w' : World} {a : Option Addr} {len cap : Nat} {ts : List M.TapeD} (h : M.Tps w a len cap ts) (hb : Below w.heap.size w w') : M.Tps w' a len cap ts := by
  obtain ⟨h1, h2, h3, h4⟩ := h
  refine ⟨h1, h2, h3, fun hl => ?_⟩
  obtain ⟨b, off, rfl, hf⟩ := h4 hl
  exact ⟨b, off, rfl, hf.below hb⟩
theorem M.Tps.max {w : World} {a : Option Addr} {len cap : Nat} {ts : List M.TapeD} (h : M.Tps w a len cap ts) : len ≤ 9223372036854775807 := by
  obtain ⟨_, h1, h2, _⟩ := h; unfold maxLen at h2; omega
theorem M.Strs.max {w : World} {a : Option Addr} {len cap : Nat} {ts : List ByteArray} (h : M.Strs w a len cap ts) : len ≤ 9223372036854775807 := by
  obtain ⟨_, h1, h2, _⟩ := h; unfold maxLen at h2; omega
/-- One tape of a slice. -/
theorem M.Tps.at {w : World} {a : Option Addr} {len cap k : Nat} {ts : List M.TapeD} (h : M.Tps w a len cap ts) (hk : k < len) : ∃ b off t, a = some ⟨b, off, none⟩ ∧ ts[k]? = some t ∧ M.TpAt w b (off + k * 4) t := by
  obtain ⟨h1, -, -, h4⟩ := h
  obtain ⟨b, off, rfl, hf⟩ := h4 (by omega)
  exact ⟨b, off, ts[k]'(by omega), rfl, List.getElem?_eq_getElem (by omega), hf k (by omega)⟩

/-- A right tape. -/
def M.tapeR (t : M.TapeD) : Bool := decide (0 ≤ t.lab ∧ t.lab ≤ 1000000) && decide (0 ≤ t.room ∧ t.room ≤ 300) && decide ((t.ss.length : Int) ≤ t.room) && decide (0 ≤ t.syn ∧ t.syn ≤ (t.ss.length : Int)) && t.ss.all fun s => decide (s.size = 64)
/-- Right tapes. -/
def M.tapesR (ts : List M.TapeD) : Bool := decide (1 ≤ ts.length ∧ ts.length ≤ 8) && ts.all M.tapeR
theorem M.tapeR_iff {t : M.TapeD} : M.tapeR t = true ↔ (0 ≤ t.lab ∧ t.lab ≤ 1000000) ∧ (0 ≤ t.room ∧ t.room ≤ 300) ∧ (t.ss.length : Int) ≤ t.room ∧ (0 ≤ t.syn ∧ t.syn ≤ (t.ss.length : Int)) ∧ ∀ s ∈ t.ss, s.size = 64 := by
  unfold M.tapeR
  simp only [Bool.and_eq_true, decide_eq_true_eq, List.all_eq_true, and_assoc]
theorem M.tapesR_iff {ts : List M.TapeD} : M.tapesR ts = true ↔ (1 ≤ ts.length ∧ ts.length ≤ 8) ∧ ∀ t ∈ ts, M.tapeR t = true := by
  unfold M.tapesR
  simp only [Bool.and_eq_true, decide_eq_true_eq, List.all_eq_true]

theorem M.open_strs0 {H : Type} {enc : TypeId × Value → H} {P : Program} {w : World} {base : Nat} {spare : Nat → Bool} {held : Bool} {t e : TypeId} {fuel : Nat} {cs : List Value} {x : DataW H × List MemPlace}
    (ht : P.underlying t = some (.slice e)) (he : P.underlying e = some .string) (ce : P.cellsOf e = 1) (h : DataW.trod enc P w base spare held fuel t cs = some x) :
    ∃ (a : Option Addr) (len cap : Nat) (ss : List ByteArray), cs = [.slice a len cap] ∧ M.Strs w a len cap ss ∧ (∀ s ∈ ss, s.size ≤ maxLen) ∧ (a = none → cap = 0) := by
  obtain ⟨a, n, c, ss, e0, hs, hok⟩ := M.open_strs ht he ce h
  refine ⟨a, n, c, ss, e0, hs, hok, fun ha => ?_⟩
  rcases open_slice ht h with ⟨h0, _⟩ | ⟨a', len, cap, m, n', D, Pl, h0, _⟩
  · rw [e0] at h0
    have := List.singleton_inj.1 h0
    cases this
    rfl
  · rw [e0] at h0
    have := List.singleton_inj.1 h0
    cases this
    cases ha
theorem M.open_tapes {H : Type} {enc : TypeId × Value → H} {P : Program} {w : World} {base : Nat} {spare : Nat → Bool} {held : Bool} {t e es : TypeId} {f0 f1 f2 f3 : Field} {fuel : Nat} {cs : List Value} {x : DataW H × List MemPlace}
    (ht : P.underlying t = some (.slice e)) (he : P.underlying e = some (.struct #[f0, f1, f2, f3])) (ce : P.cellsOf e = 4)
    (o0 : f0.offset = 0) (o1 : f1.offset = 1) (o2 : f2.offset = 2) (o3 : f3.offset = 3)
    (c0 : P.cellsOf f0.type = 1) (c1 : P.cellsOf f1.type = 1) (c2 : P.cellsOf f2.type = 1) (c3 : P.cellsOf f3.type = 1)
    (u0 : P.underlying f0.type = some (.int .i64)) (u1 : P.underlying f1.type = some (.slice es)) (hes : P.underlying es = some .string) (ces : P.cellsOf es = 1) (u2 : P.underlying f2.type = some (.int .i64)) (u3 : P.underlying f3.type = some (.int .i64))
    (h : DataW.trod enc P w base spare held fuel t cs = some x) :
    ∃ (a : Option Addr) (len cap : Nat) (ts : List M.TapeD), cs = [.slice a len cap] ∧ M.Tps w a len cap ts ∧ ∀ t ∈ ts, M.tok t := by
  rcases open_slice ht h with ⟨h0, _⟩ | ⟨a, len, cap, m, n, D, Pl, rfl, hb, hl, hm, hmm, rfl, hx⟩
  · exact ⟨none, 0, 0, [], h0, ⟨rfl, Nat.le_refl _, Nat.zero_le _, fun h => absurd h (Nat.lt_irrefl _)⟩, fun f hf => by simp at hf⟩
  have hlm : len ≤ m := by rw [hmm]; split <;> omega
  have each : ∀ i, i < len → ∃ f : M.TapeD, w.cell? (a.add (i * 4)) = some (.int .i64 f.lab) ∧ (∃ a' n' c', w.cell? (a.add (i * 4 + 1)) = some (.slice a' n' c') ∧ M.Strs w a' n' c' f.ss ∧ (a' = none → c' = 0)) ∧ w.cell? (a.add (i * 4 + 2)) = some (.int .i64 f.syn) ∧
      w.cell? (a.add (i * 4 + 3)) = some (.int .i64 f.room) ∧ M.tok f := by
    intro i hi
    obtain ⟨cs', h1, h2⟩ := hx i (by omega)
    rw [ce] at h1
    obtain ⟨_, hlen, hcell⟩ := World.cells?_some h1
    obtain ⟨xs, k, hk, hxy, _, hxl, hf⟩ := DataW.trod_struct he h2
    match xs, hxl, cs', hlen with
    | [y0, y1, y2, y3], _, [v0, v1, v2, v3], _ =>
      have g0 := hf 0 f0 rfl
      have g1 := hf 1 f1 rfl
      have g2 := hf 2 f2 rfl
      have g3 := hf 3 f3 rfl
      simp [o0, o1, o2, o3, c0, c1, c2, c3] at g0 g1 g2 g3
      obtain ⟨la, e0, _, hla⟩ := DataW.trod_int u0 g0
      obtain ⟨a', n', c', ss, e1, hss, hok, hnz⟩ := M.open_strs0 u1 hes ces g1
      obtain ⟨sy, e2, _, hsy⟩ := DataW.trod_int u2 g2
      obtain ⟨ro, e3, _, hro⟩ := DataW.trod_int u3 g3
      obtain rfl := List.singleton_inj.1 e0
      obtain rfl := List.singleton_inj.1 e1
      obtain rfl := List.singleton_inj.1 e2
      obtain rfl := List.singleton_inj.1 e3
      have r0 := hcell 0 (by omega)
      have r1 := hcell 1 (by omega)
      have r2 := hcell 2 (by omega)
      have r3 := hcell 3 (by omega)
      rw [add_add] at r0 r1 r2 r3
      exact ⟨⟨la, ss, sy, ro⟩, by simpa using r0, ⟨a', n', c', by simpa using r1, hss, hnz⟩, by simpa using r2, by simpa using r3, hok, M.wf_i64 hla, M.wf_i64 hsy, M.wf_i64 hro⟩
  have hin : Inhabited M.TapeD := ⟨⟨0, [], 0, 0⟩⟩
  obtain ⟨F, hF⟩ := choose_lt each
  refine ⟨some a, len, cap, (List.range len).map F, rfl, ⟨by simp, hl, hm, fun hpos => ?_⟩, fun f hf => ?_⟩
  · have hs : a.spot = none := by
      have h0 := (hF 0 hpos).1
      simp only [Nat.zero_mul, Addr.add, if_pos] at h0
      unfold World.cell? at h0
      split at h0
      · cases hq : a.spot with
        | none => rfl
        | some q => simp [hq] at h0
      · cases h0
    obtain ⟨b, off, spot⟩ := a
    simp only at hs
    subst hs
    have ad : ∀ q, (⟨b, off, none⟩ : Addr).add q = ⟨b, off + q, none⟩ := fun q => by
      unfold Addr.add
      split
      · next h => subst h; rfl
      · rfl
    refine ⟨b, off, rfl, fun i hi => ?_⟩
    have hi' : i < len := by simpa using hi
    obtain ⟨r0, ⟨a', n', c', r1, hss, hnz⟩, r2, r3, _⟩ := hF i hi'
    simp only [ad] at r0 r1 r2 r3
    simp only [List.getElem_map, List.getElem_range]
    exact ⟨r0, ⟨a', n', c', by simpa [Nat.add_assoc] using r1, hss, hnz⟩, by simpa [Nat.add_assoc] using r2, by simpa [Nat.add_assoc] using r3⟩
  · obtain ⟨i, hi, rfl⟩ := List.mem_map.1 hf
    exact (hF i (List.mem_range.1 hi)).2.2.2.2
end Go.Proofs.Ytappficbjjkmiaa

/-
  Boxes of arguments and of answers: small facts on blocks.
-/
namespace Go.Proofs.Ytappficbjjkmiaa
open Go.RowKit

theorem M.thr3 (w : World) (o1 o2 o3 : Obj) : (((w.alloc o1).alloc o2).alloc o3).heap[w.heap.size]? = some o1 ∧ (((w.alloc o1).alloc o2).alloc o3).heap[w.heap.size + 1]? = some o2 ∧ (((w.alloc o1).alloc o2).alloc o3).heap[w.heap.size + 1 + 1]? = some o3 := by
  have e1 : (w.alloc o1).heap.size = w.heap.size + 1 := by simp
  have e2 : ((w.alloc o1).alloc o2).heap.size = w.heap.size + 1 + 1 := by simp
  refine ⟨?_, ?_, ?_⟩
  · rw [heap_alloc_old _ _ (by rw [e2]; omega)]; exact heap_alloc2_old w o1 o2
  · rw [heap_alloc_old _ _ (by rw [e2]; omega)]; exact heap_alloc2_new w o1 o2
  · have := heap_alloc_new ((w.alloc o1).alloc o2) o3
    rwa [e2] at this
theorem M.thr2 (w : World) (o1 o2 : Obj) : ((w.alloc o1).alloc o2).heap[w.heap.size]? = some o1 ∧ ((w.alloc o1).alloc o2).heap[w.heap.size + 1]? = some o2 := ⟨heap_alloc2_old w o1 o2, heap_alloc2_new w o1 o2⟩
theorem M.setfr {w : World} {g b j : Nat} {v : Value} (h : g ≠ b) : (w.setCell ⟨g, j, none⟩ v).heap[b]? = w.heap[b]? := by
  simp only [World.setCell, Array.getElem?_modify]
  rw [if_neg h]
theorem M.bk_cell {W : World} {H : Nat} {arr : Array Value} {T : TypeId} (h : W.heap[H]? = some (.cells arr T (0, 0))) (i : Nat) (v : Value) (hv : arr[i]? = some v) : W.cell? ⟨H, i, none⟩ = some v := by
  simp [World.cell?, h, hv]
theorem M.bk_free {W : World} {H : Nat} {arr : Array Value} {T : TypeId} (h : W.heap[H]? = some (.cells arr T (0, 0))) (i : Nat) : W.frozen? ⟨H, i, none⟩ = false := by
  simp [World.frozen?, h]
/-- A box that was laid first: what lies in it, behind whatever changes nothing of it. -/
theorem M.bxd {w W : World} {arr : Array Value} {T : TypeId} (hb : Below (w.alloc (.cells arr T)).heap.size (w.alloc (.cells arr T)) W) (i : Nat) (v : Value) (hv : arr[i]? = some v) : W.cell? ⟨w.heap.size, i, none⟩ = some v := by
  have := (hb.block w.heap.size (by simp)).trans (heap_alloc_new w (.cells arr T))
  exact M.bk_cell this i v hv
theorem M.bxd_below {w W : World} {o : Obj} (hb : Below (w.alloc o).heap.size (w.alloc o) W) : Below w.heap.size w W :=
  ((Below.refl w.heap.size w).alloc (Nat.le_refl _) o).trans (hb.mono (by simp))
theorem M.keepO {W W' : World} {H : Nat} {o : Obj} (h : W.heap[H]? = some o) (hb : Below W.heap.size W W') : W'.heap[H]? = some o := (hb.block H (Array.getElem?_eq_some_iff.1 h).1).trans h
end Go.Proofs.Ytappficbjjkmiaa
