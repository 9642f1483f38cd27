/-
  Chapter 7 as mathematics: pieces that fit, right senders and receivers; arguments that are senders, receivers, packets, opened.
-/
import Derived.Test.YtappficbjjkmiaaPart3
import Derived.Test.YtappficbjjkmiaaPart4
import Derived.WalkKit
import Derived.Below
namespace Go.Proofs.Ytappficbjjkmiaa
open Go.ChangeShapes Go.WideShapes Go.Deep Go.RowKit

theorem M.hl {p : Prop} (h : p) : Hid p := h
theorem M.sl {a w v : World} (h : Below a.heap.size a w) (h' : Below w.heap.size w v) : Below a.heap.size a v := h.trans (h'.mono h.size)

/-- At most 300 pieces of at most 64 bytes. -/
def M.fits (ss : List ByteArray) : Bool := decide (ss.length ≤ 300) && ss.all fun s => decide (s.size ≤ 64)
/-- Each of just 64 bytes. -/
def M.full (ss : List ByteArray) : Bool := ss.all fun s => decide (s.size = 64)
/-- A right sender. -/
def M.sndR (ss : List ByteArray) (x d t : Int) : Bool := decide (1 ≤ ss.length) && M.fits ss && decide (0 ≤ x ∧ x ≤ (ss.length : Int)) && decide (0 ≤ d ∧ d ≤ 2000000000) && decide (1 ≤ t ∧ t ≤ 64)
/-- A right receiver. -/
def M.rcvR (ss : List ByteArray) (x : Int) : Bool := M.fits ss && (if x = -1 then decide (0 < ss.length) && M.full ss.dropLast else decide (x = (ss.length : Int)) && M.full ss)

theorem M.fits_long {ss : List ByteArray} (h : 300 < ss.length) : M.fits ss = false := by
  unfold M.fits; rw [decide_eq_false (by omega), Bool.false_and]
theorem M.fits_bad {ss : List ByteArray} {k : Nat} {s : ByteArray} (h : ss[k]? = some s) (hs : 64 < s.size) : M.fits ss = false := by
  unfold M.fits
  rw [Bool.and_eq_false_iff]
  right
  rw [List.all_eq_false]
  exact ⟨s, List.mem_of_getElem? h, by simp; omega⟩
theorem M.fits_ok {ss : List ByteArray} (h : ss.length ≤ 300) (ha : ∀ s ∈ ss, s.size ≤ 64) : M.fits ss = true := by
  unfold M.fits
  rw [decide_eq_true h, Bool.true_and, List.all_eq_true]
  intro s hs
  exact decide_eq_true (ha s hs)
theorem M.fits_iff {ss : List ByteArray} : M.fits ss = true ↔ ss.length ≤ 300 ∧ ∀ s ∈ ss, s.size ≤ 64 := by
  unfold M.fits; simp
theorem M.full_bad {ss : List ByteArray} {k : Nat} {s : ByteArray} (h : ss[k]? = some s) (hs : s.size ≠ 64) : M.full ss = false := by
  unfold M.full
  rw [List.all_eq_false]
  exact ⟨s, List.mem_of_getElem? h, by simpa using hs⟩
theorem M.full_iff {ss : List ByteArray} : M.full ss = true ↔ ∀ s ∈ ss, s.size = 64 := by
  unfold M.full; simp
theorem M.forall_snoc {p : ByteArray → Prop} {ss : List ByteArray} {k : Nat} {s : ByteArray} (h : ∀ t ∈ ss.take k, p t) (hk : ss[k]? = some s) (hs : p s) : ∀ t ∈ ss.take (k + 1), p t := by
  rw [M.take_snocS hk]
  intro t ht
  rcases List.mem_append.1 ht with h' | h'
  · exact h t h'
  · obtain rfl := List.mem_singleton.1 h'; exact hs
theorem M.Strs.pre {w : World} {a : Option Addr} {len cap : Nat} {ss : List ByteArray} (h : M.Strs w a len cap ss) (k : Nat) (hk : k ≤ len) : M.Strs w a k cap (ss.take k) := by
  obtain ⟨h1, h2, h3, h4⟩ := h
  refine ⟨by rw [List.length_take]; omega, by omega, h3, fun hl => ?_⟩
  obtain ⟨b, off, rfl, hf⟩ := h4 (by omega)
  refine ⟨b, off, rfl, fun i hi => ?_⟩
  rw [List.length_take] at hi
  rw [List.getElem_take]
  exact hf i (by omega)

/-- What the specification's loop asks of each piece that a receiver has. -/
def M.okAt (n : Nat) (x : Int) (i : Nat) (s : ByteArray) : Prop := s.size ≤ 64 ∧ (s.size < 64 → ¬ i < n - 1 ∧ x = -1)
theorem M.rcvR_iff {ss : List ByteArray} {x : Int} : M.rcvR ss x = true ↔ ss.length ≤ 300 ∧ (x = (ss.length : Int) ∨ x = -1 ∧ ss.length ≠ 0) ∧ ∀ i s, ss[i]? = some s → M.okAt ss.length x i s := by
  unfold M.rcvR
  rw [Bool.and_eq_true, M.fits_iff]
  by_cases hx : x = -1
  · subst hx
    rw [if_pos rfl, Bool.and_eq_true, M.full_iff, decide_eq_true_eq]
    constructor
    · rintro ⟨⟨h1, h2⟩, h3, h4⟩
      refine ⟨h1, .inr ⟨rfl, by omega⟩, fun i s hi => ⟨h2 s (List.mem_of_getElem? hi), fun hs => ⟨fun hl => ?_, rfl⟩⟩⟩
      have : s ∈ ss.dropLast := by
        rw [List.dropLast_eq_take]
        apply List.mem_of_getElem? (i := i)
        rw [List.getElem?_take_of_lt hl]
        exact hi
      have := h4 s this
      omega
    · rintro ⟨h1, h2, h3⟩
      have hn : ss.length ≠ 0 := by
        rcases h2 with h | h
        · omega
        · exact h.2
      refine ⟨⟨h1, fun s hs => ?_⟩, by omega, fun s hs => ?_⟩
      · obtain ⟨i, hi⟩ := List.getElem?_of_mem hs
        exact (h3 i s hi).1
      · rw [List.dropLast_eq_take] at hs
        obtain ⟨i, hi⟩ := List.getElem?_of_mem hs
        rw [List.getElem?_take] at hi
        split at hi
        · next hl =>
          have := h3 i s hi
          have h5 := this.1
          by_cases h6 : s.size < 64
          · exact absurd hl (this.2 h6).1
          · omega
        · cases hi
  · rw [if_neg hx, Bool.and_eq_true, M.full_iff, decide_eq_true_eq]
    constructor
    · rintro ⟨⟨h1, h2⟩, h3, h4⟩
      refine ⟨h1, .inl h3, fun i s hi => ⟨h2 s (List.mem_of_getElem? hi), fun hs => ?_⟩⟩
      have := h4 s (List.mem_of_getElem? hi)
      omega
    · rintro ⟨h1, h2, h3⟩
      have he : ∀ s ∈ ss, s.size = 64 := fun s hs => by
        obtain ⟨i, hi⟩ := List.getElem?_of_mem hs
        have := h3 i s hi
        have h5 := this.1
        by_cases h6 : s.size < 64
        · exact absurd (this.2 h6).2 hx
        · omega
      refine ⟨⟨h1, fun s hs => by have := he s hs; omega⟩, ?_, he⟩
      rcases h2 with h | h
      · exact h
      · exact absurd h.1 hx

/-- An argument that is a receiver: a slice of texts and a number. -/
theorem M.open_recv {H : Type} {enc : TypeId × Value → H} {P : Program} {w : World} {base : Nat} {spare : Nat → Bool} {held : Bool} {t es : TypeId} {g0 g1 : Field} {fuel : Nat} {cs : List Value} {x : DataW H × List MemPlace}
    (ht : P.underlying t = some (.struct #[g0, g1])) (ct : P.cellsOf t = 2) (p0 : g0.offset = 0) (p1 : g1.offset = 1) (k0 : P.cellsOf g0.type = 1) (k1 : P.cellsOf g1.type = 1)
    (hs : P.underlying g0.type = some (.slice es)) (hes : P.underlying es = some .string) (ces : P.cellsOf es = 1) (hi : P.underlying g1.type = some (.int .i64))
    (h : DataW.trod enc P w base spare held fuel t cs = some x) :
    ∃ (a : Option Addr) (n c : Nat) (ss : List ByteArray) (x : Int), cs = [.slice a n c, .int .i64 x] ∧ M.Strs w a n c ss ∧ (∀ s ∈ ss, s.size ≤ maxLen) ∧ -9223372036854775808 ≤ x ∧ x ≤ 9223372036854775807 := by
  obtain ⟨xs, n, hn, hxy, hlen, hxl, hx⟩ := DataW.trod_struct ht h
  rw [ct] at hlen
  match xs, hxl, cs, hlen with
  | [y0, y1], _, [v0, v1], _ =>
    have r0 := hx 0 g0 rfl
    have r1 := hx 1 g1 rfl
    simp [p0, p1, k0, k1] at r0 r1
    obtain ⟨a, n1, c, ss, e0, hss, hok⟩ := M.open_strs hs hes ces r0
    obtain ⟨x1, e1, _, hx1⟩ := DataW.trod_int hi r1
    obtain rfl := List.singleton_inj.1 e0
    obtain rfl := List.singleton_inj.1 e1
    have w1 := M.wf_i64 hx1
    exact ⟨a, n1, c, ss, x1, rfl, hss, hok, w1.1, w1.2⟩
/-- An argument that is a sender: a slice of texts and three numbers. -/
theorem M.open_send {H : Type} {enc : TypeId × Value → H} {P : Program} {w : World} {base : Nat} {spare : Nat → Bool} {held : Bool} {t es : TypeId} {g0 g1 g2 g3 : Field} {fuel : Nat} {cs : List Value} {x : DataW H × List MemPlace}
    (ht : P.underlying t = some (.struct #[g0, g1, g2, g3])) (ct : P.cellsOf t = 4) (p0 : g0.offset = 0) (p1 : g1.offset = 1) (p2 : g2.offset = 2) (p3 : g3.offset = 3) (k0 : P.cellsOf g0.type = 1) (k1 : P.cellsOf g1.type = 1) (k2 : P.cellsOf g2.type = 1) (k3 : P.cellsOf g3.type = 1)
    (hs : P.underlying g0.type = some (.slice es)) (hes : P.underlying es = some .string) (ces : P.cellsOf es = 1) (h1 : P.underlying g1.type = some (.int .i64)) (h2 : P.underlying g2.type = some (.int .i64)) (h3 : P.underlying g3.type = some (.int .i64))
    (h : DataW.trod enc P w base spare held fuel t cs = some x) :
    ∃ (a : Option Addr) (n c : Nat) (ss : List ByteArray) (x d t : Int), cs = [.slice a n c, .int .i64 x, .int .i64 d, .int .i64 t] ∧ M.Strs w a n c ss ∧ (∀ s ∈ ss, s.size ≤ maxLen) ∧ (-9223372036854775808 ≤ x ∧ x ≤ 9223372036854775807) ∧ (-9223372036854775808 ≤ d ∧ d ≤ 9223372036854775807) ∧ (-9223372036854775808 ≤ t ∧ t ≤ 9223372036854775807) := by
  obtain ⟨xs, n, hn, hxy, hlen, hxl, hx⟩ := DataW.trod_struct ht h
  rw [ct] at hlen
  match xs, hxl, cs, hlen with
  | [y0, y1, y2, y3], _, [v0, v1, v2, v3], _ =>
    have r0 := hx 0 g0 rfl
    have r1 := hx 1 g1 rfl
    have r2 := hx 2 g2 rfl
    have r3 := hx 3 g3 rfl
    simp [p0, p1, p2, p3, k0, k1, k2, k3] at r0 r1 r2 r3
    obtain ⟨a, n1, c, ss, e0, hss, hok⟩ := M.open_strs hs hes ces r0
    obtain ⟨x1, e1, _, hx1⟩ := DataW.trod_int h1 r1
    obtain ⟨x2, e2, _, hx2⟩ := DataW.trod_int h2 r2
    obtain ⟨x3, e3, _, hx3⟩ := DataW.trod_int h3 r3
    obtain rfl := List.singleton_inj.1 e0
    obtain rfl := List.singleton_inj.1 e1
    obtain rfl := List.singleton_inj.1 e2
    obtain rfl := List.singleton_inj.1 e3
    exact ⟨a, n1, c, ss, x1, x2, x3, rfl, hss, hok, M.wf_i64 hx1, M.wf_i64 hx2, M.wf_i64 hx3⟩
/-- An argument that is a packet: a number, a truth, a text, a number. -/
theorem M.open_pack {H : Type} {enc : TypeId × Value → H} {P : Program} {w : World} {base : Nat} {spare : Nat → Bool} {held : Bool} {t : TypeId} {g0 g1 g2 g3 : Field} {fuel : Nat} {cs : List Value} {x : DataW H × List MemPlace}
    (ht : P.underlying t = some (.struct #[g0, g1, g2, g3])) (ct : P.cellsOf t = 4) (p0 : g0.offset = 0) (p1 : g1.offset = 1) (p2 : g2.offset = 2) (p3 : g3.offset = 3) (k0 : P.cellsOf g0.type = 1) (k1 : P.cellsOf g1.type = 1) (k2 : P.cellsOf g2.type = 1) (k3 : P.cellsOf g3.type = 1)
    (h0 : P.underlying g0.type = some (.int .i64)) (h1 : P.underlying g1.type = some .bool) (h2 : P.underlying g2.type = some .string) (h3 : P.underlying g3.type = some (.int .i64))
    (h : DataW.trod enc P w base spare held fuel t cs = some x) :
    ∃ (q : Int) (l : Bool) (s : ByteArray) (c : Int), cs = [.int .i64 q, .bool l, .string s, .int .i64 c] ∧ (-9223372036854775808 ≤ q ∧ q ≤ 9223372036854775807) ∧ s.size ≤ maxLen ∧ (-9223372036854775808 ≤ c ∧ c ≤ 9223372036854775807) := by
  obtain ⟨xs, n, hn, hxy, hlen, hxl, hx⟩ := DataW.trod_struct ht h
  rw [ct] at hlen
  match xs, hxl, cs, hlen with
  | [y0, y1, y2, y3], _, [v0, v1, v2, v3], _ =>
    have r0 := hx 0 g0 rfl
    have r1 := hx 1 g1 rfl
    have r2 := hx 2 g2 rfl
    have r3 := hx 3 g3 rfl
    simp [p0, p1, p2, p3, k0, k1, k2, k3] at r0 r1 r2 r3
    obtain ⟨x0, e0, _, hx0⟩ := DataW.trod_int h0 r0
    obtain ⟨x1, e1, _⟩ := DataW.trod_bool h1 r1
    obtain ⟨x2, e2, _, hx2⟩ := DataW.trod_string h2 r2
    obtain ⟨x3, e3, _, hx3⟩ := DataW.trod_int h3 r3
    obtain rfl := List.singleton_inj.1 e0
    obtain rfl := List.singleton_inj.1 e1
    obtain rfl := List.singleton_inj.1 e2
    obtain rfl := List.singleton_inj.1 e3
    exact ⟨x0, x1, x2, x3, rfl, M.wf_i64 hx0, hx2, M.wf_i64 hx3⟩
end Go.Proofs.Ytappficbjjkmiaa

/-
  Tapes as data: rows of them in memory, right tapes; an argument that is a slice of tapes, opened.
-/
namespace Go.Proofs.Ytappficbjjkmiaa
open Go.ChangeShapes Go.WideShapes Go.Deep Go.RowKit

/-- A tape as data. -/
structure M.TapeD where
  lab : Int
  ss : List ByteArray
  syn : Int
  room : Int

/-- A tape in memory, from a place on. -/
def M.TpAt (w : World) (b off : Nat) (t : M.TapeD) : Prop :=
  w.cell? ⟨b, off, none⟩ = some (.int .i64 t.lab) ∧ (∃ a n c, w.cell? ⟨b, off + 1, none⟩ = some (.slice a n c) ∧ M.Strs w a n c t.ss ∧ (a = none → c = 0)) ∧
  w.cell? ⟨b, off + 2, none⟩ = some (.int .i64 t.syn) ∧ w.cell? ⟨b, off + 3, none⟩ = some (.int .i64 t.room)
/-- Tapes in a row from a place on. -/
def M.TpsAt (w : World) (b off : Nat) (ts : List M.TapeD) : Prop := ∀ i (h : i < ts.length), M.TpAt w b (off + i * 4) ts[i]
/-- A slice of tapes. -/
def M.Tps (w : World) (a : Option Addr) (len cap : Nat) (ts : List M.TapeD) : Prop :=
  len = ts.length ∧ len ≤ cap ∧ cap ≤ maxLen ∧ (0 < len → ∃ b off, a = some ⟨b, off, none⟩ ∧ M.TpsAt w b off ts)
/-- What every tape that came in keeps. -/
def M.tok (t : M.TapeD) : Prop := (∀ s ∈ t.ss, s.size ≤ maxLen) ∧ (-9223372036854775808 ≤ t.lab ∧ t.lab ≤ 9223372036854775807) ∧ (-9223372036854775808 ≤ t.syn ∧ t.syn ≤ 9223372036854775807) ∧ (-9223372036854775808 ≤ t.room ∧ t.room ≤ 9223372036854775807)

theorem M.TpAt.below {w w' : World} {b off : Nat} {t : M.TapeD} (h : M.TpAt w b off t) (hb : Below w.heap.size w w') : M.TpAt w' b off t := by
  obtain ⟨h0, ⟨a, n, c, h1, hs, hz⟩, h2, h3⟩ := h
  have hB := hb.block b (World.block_lt_of_cell? w _ h0)
  exact ⟨(World.cell?_of_block (a := ⟨b, off, none⟩) hB).trans h0, ⟨a, n, c, (World.cell?_of_block (a := ⟨b, off + 1, none⟩) hB).trans h1, hs.below hb, hz⟩, (World.cell?_of_block (a := ⟨b, off + 2, none⟩) hB).trans h2, (World.cell?_of_block (a := ⟨b, off + 3, none⟩) hB).trans h3⟩
theorem M.TpsAt.below {w w' : World} {b off : Nat} {ts : List M.TapeD} (h : M.TpsAt w b off ts) (hb : Below w.heap.size w w') : M.TpsAt w' b off ts := fun i hi => (h i hi).below hb
theorem M.Tps.below {w w' : World} {a : Option Addr} {len cap : Nat} {ts : List M.TapeD} (h : M.Tps w a len cap ts) (hb : Below w.heap.size w w') : M.Tps w' a len cap ts := by
  obtain ⟨h1, h2, h3, h4⟩ := h
  refine ⟨h1, h2, h3, fun hl => ?_⟩
  obtain ⟨b, off, rfl, hf⟩ := h4 hl
  exact ⟨b, off, rfl, hf.below hb⟩
theorem M.Tps.max {w : World} {a : Option Addr} {len cap : Nat} {ts : List M.TapeD} (h : M.Tps w a len cap ts) : len ≤ 9223372036854775807 := by
  obtain ⟨_, h1, h2, _⟩ := h; unfold maxLen at h2; omega
theorem M.Strs.max {w : World} {a : Option Addr} {len cap : Nat} {ts : List ByteArray} (h : M.Strs w a len cap ts) : len ≤ 9223372036854775807 := by
  obtain ⟨_, h1, h2, _⟩ := h; unfold maxLen at h2; omega
/-- One tape of a slice. -/
theorem M.Tps.at {w : World} {a : Option Addr} {len cap k : Nat} {ts : List M.TapeD} (h : M.Tps w a len cap ts) (hk : k < len) : ∃ b off t, a = some ⟨b, off, none⟩ ∧ ts[k]? = some t ∧ M.TpAt w b (off + k * 4) t := by
  obtain ⟨h1, -, -, h4⟩ := h
  obtain ⟨b, off, rfl, hf⟩ := h4 (by omega)
  exact ⟨b, off, ts[k]'(by omega), rfl, List.getElem?_eq_getElem (by omega), hf k (by omega)⟩

/-- A right tape. -/
def M.tapeR (t : M.TapeD) : Bool := decide (0 ≤ t.lab ∧ t.lab ≤ 1000000) && decide (0 ≤ t.room ∧ t.room ≤ 300) && decide ((t.ss.length : Int) ≤ t.room) && decide (0 ≤ t.syn ∧ t.syn ≤ (t.ss.length : Int)) && t.ss.all fun s => decide (s.size = 64)
/-- Right tapes. -/
def M.tapesR (ts : List M.TapeD) : Bool := decide (1 ≤ ts.length ∧ ts.length ≤ 8) && ts.all M.tapeR
theorem M.tapeR_iff {t : M.TapeD} : M.tapeR t = true ↔ (0 ≤ t.lab ∧ t.lab ≤ 1000000) ∧ (0 ≤ t.room ∧ t.room ≤ 300) ∧ (t.ss.length : Int) ≤ t.room ∧ (0 ≤ t.syn ∧ t.syn ≤ (t.ss.length : Int)) ∧ ∀ s ∈ t.ss, s.size = 64 := by
  unfold M.tapeR
  simp only [Bool.and_eq_true, decide_eq_true_eq, List.all_eq_true, and_assoc]
theorem M.tapesR_iff {ts : List M.TapeD} : M.tapesR ts = true ↔ (1 ≤ ts.length ∧ ts.length ≤ 8) ∧ ∀ t ∈ ts, M.tapeR t = true := by
  unfold M.tapesR
  simp only [Bool.and_eq_true, decide_eq_true_eq, List.all_eq_true]

theorem M.open_strs0 {H : Type} {enc : TypeId × Value → H} {P : Program} {w : World} {base : Nat} {spare : Nat → Bool} {held : Bool} {t e : TypeId} {fuel : Nat} {cs : List Value} {x : DataW H × List MemPlace}
    (ht : P.underlying t = some (.slice e)) (he : P.underlying e = some .string) (ce : P.cellsOf e = 1) (h : DataW.trod enc P w base spare held fuel t cs = some x) :
    ∃ (a : Option Addr) (len cap : Nat) (ss : List ByteArray), cs = [.slice a len cap] ∧ M.Strs w a len cap ss ∧ (∀ s ∈ ss, s.size ≤ maxLen) ∧ (a = none → cap = 0) := by
  obtain ⟨a, n, c, ss, e0, hs, hok⟩ := M.open_strs ht he ce h
  refine ⟨a, n, c, ss, e0, hs, hok, fun ha => ?_⟩
  rcases open_slice ht h with ⟨h0, _⟩ | ⟨a', len, cap, m, n', D, Pl, h0, _⟩
  · rw [e0] at h0
    have := List.singleton_inj.1 h0
    cases this
    rfl
  · rw [e0] at h0
    have := List.singleton_inj.1 h0
    cases this
    cases ha
theorem M.open_tapes {H : Type} {enc : TypeId × Value → H} {P : Program} {w : World} {base : Nat} {spare : Nat → Bool} {held : Bool} {t e es : TypeId} {f0 f1 f2 f3 : Field} {fuel : Nat} {cs : List Value} {x : DataW H × List MemPlace}
    (ht : P.underlying t = some (.slice e)) (he : P.underlying e = some (.struct #[f0, f1, f2, f3])) (ce : P.cellsOf e = 4)
    (o0 : f0.offset = 0) (o1 : f1.offset = 1) (o2 : f2.offset = 2) (o3 : f3.offset = 3)
    (c0 : P.cellsOf f0.type = 1) (c1 : P.cellsOf f1.type = 1) (c2 : P.cellsOf f2.type = 1) (c3 : P.cellsOf f3.type = 1)
    (u0 : P.underlying f0.type = some (.int .i64)) (u1 : P.underlying f1.type = some (.slice es)) (hes : P.underlying es = some .string) (ces : P.cellsOf es = 1) (u2 : P.underlying f2.type = some (.int .i64)) (u3 : P.underlying f3.type = some (.int .i64))
    (h : DataW.trod enc P w base spare held fuel t cs = some x) :
    ∃ (a : Option Addr) (len cap : Nat) (ts : List M.TapeD), cs = [.slice a len cap] ∧ M.Tps w a len cap ts ∧ ∀ t ∈ ts, M.tok t := by
  rcases open_slice ht h with ⟨h0, _⟩ | ⟨a, len, cap, m, n, D, Pl, rfl, hb, hl, hm, hmm, rfl, hx⟩
  · exact ⟨none, 0, 0, [], h0, ⟨rfl, Nat.le_refl _, Nat.zero_le _, fun h => absurd h (Nat.lt_irrefl _)⟩, fun f hf => by simp at hf⟩
  have hlm : len ≤ m := by rw [hmm]; split <;> omega
  have each : ∀ i, i < len → ∃ f : M.TapeD, w.cell? (a.add (i * 4)) = some (.int .i64 f.lab) ∧ (∃ a' n' c', w.cell? (a.add (i * 4 + 1)) = some (.slice a' n' c') ∧ M.Strs w a' n' c' f.ss ∧ (a' = none → c' = 0)) ∧ w.cell? (a.add (i * 4 + 2)) = some (.int .i64 f.syn) ∧
      w.cell? (a.add (i * 4 + 3)) = some (.int .i64 f.room) ∧ M.tok f := by
    intro i hi
    obtain ⟨cs', h1, h2⟩ := hx i (by omega)
    rw [ce] at h1
    obtain ⟨_, hlen, hcell⟩ := World.cells?_some h1
    obtain ⟨xs, k, hk, hxy, _, hxl, hf⟩ := DataW.trod_struct he h2
    match xs, hxl, cs', hlen with
    | [y0, y1, y2, y3], _, [v0, v1, v2, v3], _ =>
      have g0 := hf 0 f0 rfl
      have g1 := hf 1 f1 rfl
      have g2 := hf 2 f2 rfl
      have g3 := hf 3 f3 rfl
      simp [o0, o1, o2, o3, c0, c1, c2, c3] at g0 g1 g2 g3
      obtain ⟨la, e0, _, hla⟩ := DataW.trod_int u0 g0
      obtain ⟨a', n', c', ss, e1, hss, hok, hnz⟩ := M.open_strs0 u1 hes ces g1
      obtain ⟨sy, e2, _, hsy⟩ := DataW.trod_int u2 g2
      obtain ⟨ro, e3, _, hro⟩ := DataW.trod_int u3 g3
      obtain rfl := List.singleton_inj.1 e0
      obtain rfl := List.singleton_inj.1 e1
      obtain rfl := List.singleton_inj.1 e2
      obtain rfl := List.singleton_inj.1 e3
      have r0 := hcell 0 (by omega)
      have r1 := hcell 1 (by omega)
      have r2 := hcell 2 (by omega)
      have r3 := hcell 3 (by omega)
      rw [add_add] at r0 r1 r2 r3
      exact ⟨⟨la, ss, sy, ro⟩, by simpa using r0, ⟨a', n', c', by simpa using r1, hss, hnz⟩, by simpa using r2, by simpa using r3, hok, M.wf_i64 hla, M.wf_i64 hsy, M.wf_i64 hro⟩
  have hin : Inhabited M.TapeD := ⟨⟨0, [], 0, 0⟩⟩
  obtain ⟨F, hF⟩ := choose_lt each
  refine ⟨some a, len, cap, (List.range len).map F, rfl, ⟨by simp, hl, hm, fun hpos => ?_⟩, fun f hf => ?_⟩
  · have hs : a.spot = none := by
      have h0 := (hF 0 hpos).1
      simp only [Nat.zero_mul, Addr.add, if_pos] at h0
      unfold World.cell? at h0
      split at h0
      · cases hq : a.spot with
        | none => rfl
        | some q => simp [hq] at h0
      · cases h0
    obtain ⟨b, off, spot⟩ := a
    simp only at hs
    subst hs
    have ad : ∀ q, (⟨b, off, none⟩ : Addr).add q = ⟨b, off + q, none⟩ := fun q => by
      unfold Addr.add
      split
      · next h => subst h; rfl
      · rfl
    refine ⟨b, off, rfl, fun i hi => ?_⟩
    have hi' : i < len := by simpa using hi
    obtain ⟨r0, ⟨a', n', c', r1, hss, hnz⟩, r2, r3, _⟩ := hF i hi'
    simp only [ad] at r0 r1 r2 r3
    simp only [List.getElem_map, List.getElem_range]
    exact ⟨r0, ⟨a', n', c', by simpa [Nat.add_assoc] using r1, hss, hnz⟩, by simpa [Nat.add_assoc] using r2, by simpa [Nat.add_assoc] using r3⟩
  · obtain ⟨i, hi, rfl⟩ := List.mem_map.1 hf
    exact (hF i (List.mem_range.1 hi)).2.2.2.2
end Go.Proofs.Ytappficbjjkmiaa

/-
  Boxes of arguments and of answers: small facts on blocks.
-/
namespace Go.Proofs.Ytappficbjjkmiaa
open Go.RowKit

theorem M.thr3 (w : World) (o1 o2 o3 : Obj) : (((w.alloc o1).alloc o2).alloc o3).heap[w.heap.size]? = some o1 ∧ (((w.alloc o1).alloc o2).alloc o3).heap[w.heap.size + 1]? = some o2 ∧ (((w.alloc o1).alloc o2).alloc o3).heap[w.heap.size + 1 + 1]? = some o3 := by
  have e1 : (w.alloc o1).heap.size = w.heap.size + 1 := by simp
  have e2 : ((w.alloc o1).alloc o2).heap.size = w.heap.size + 1 + 1 := by simp
  refine ⟨?_, ?_, ?_⟩
  · rw [heap_alloc_old _ _ (by rw [e2]; omega)]; exact heap_alloc2_old w o1 o2
  · rw [heap_alloc_old _ _ (by rw [e2]; omega)]; exact heap_alloc2_new w o1 o2
  · have := heap_alloc_new ((w.alloc o1).alloc o2) o3
    rwa [e2] at this
theorem M.thr2 (w : World) (o1 o2 : Obj) : ((w.alloc o1).alloc o2).heap[w.heap.size]? = some o1 ∧ ((w.alloc o1).alloc o2).heap[w.heap.size + 1]? = some o2 := ⟨heap_alloc2_old w o1 o2, heap_alloc2_new w o1 o2⟩
theorem M.setfr {w : World} {g b j : Nat} {v : Value} (h : g ≠ b) : (w.setCell ⟨g, j, none⟩ v).heap[b]? = w.heap[b]? := by
  simp only [World.setCell, Array.getElem?_modify]
  rw [if_neg h]
theorem M.bk_cell {W : World} {H : Nat} {arr : Array Value} {T : TypeId} (h : W.heap[H]? = some (.cells arr T (0, 0))) (i : Nat) (v : Value) (hv : arr[i]? = some v) : W.cell? ⟨H, i, none⟩ = some v := by
  simp [World.cell?, h, hv]
theorem M.bk_free {W : World} {H : Nat} {arr : Array Value} {T : TypeId} (h : W.heap[H]? = some (.cells arr T (0, 0))) (i : Nat) : W.frozen? ⟨H, i, none⟩ = false := by
  simp [World.frozen?, h]
/-- A box that was laid first: what lies in it, behind whatever changes nothing of it. -/
theorem M.bxd {w W : World} {arr : Array Value} {T : TypeId} (hb : Below (w.alloc (.cells arr T)).heap.size (w.alloc (.cells arr T)) W) (i : Nat) (v : Value) (hv : arr[i]? = some v) : W.cell? ⟨w.heap.size, i, none⟩ = some v := by
  have := (hb.block w.heap.size (by simp)).trans (heap_alloc_new w (.cells arr T))
  exact M.bk_cell this i v hv
theorem M.bxd_below {w W : World} {o : Obj} (hb : Below (w.alloc o).heap.size (w.alloc o) W) : Below w.heap.size w W :=
  ((Below.refl w.heap.size w).alloc (Nat.le_refl _) o).trans (hb.mono (by simp))
theorem M.keepO {W W' : World} {H : Nat} {o : Obj} (h : W.heap[H]? = some o) (hb : Below W.heap.size W W') : W'.heap[H]? = some o := (hb.block H (Array.getElem?_eq_some_iff.1 h).1).trans h
end Go.Proofs.Ytappficbjjkmiaa

/-
  More on rows of texts that a call owns.
-/
namespace Go.Proofs.Ytappficbjjkmiaa
open Go.RowKit

theorem M.OwnS.lower {w : World} {base low : Nat} {v : Value} {ss : List ByteArray} (h : M.OwnS w base v ss) (hb : low ≤ base) : M.OwnS w low v ss := by
  obtain ⟨hl, h0 | ⟨g, cap, cur, hv, hg, hr⟩⟩ := h
  · exact ⟨hl, .inl h0⟩
  · exact ⟨hl, .inr ⟨g, cap, cur, hv, Nat.le_trans hb hg, hr⟩⟩
theorem M.OwnS.setLow {w : World} {base : Nat} {v : Value} {ss : List ByteArray} (h : M.OwnS w base v ss) {H : Nat} (hH : H < base) (j : Nat) (u : Value) : M.OwnS (w.setCell ⟨H, j, none⟩ u) base v ss := by
  obtain ⟨hl, h0 | ⟨g, cap, cur, hv, hg, hh, hr⟩⟩ := h
  · exact ⟨hl, .inl h0⟩
  · exact ⟨hl, .inr ⟨g, cap, cur, hv, hg, by rw [M.setfr (by omega)]; exact hh, hr⟩⟩
theorem M.OwnS.len {w : World} {base : Nat} {v : Value} {ss : List ByteArray} (h : M.OwnS w base v ss) : ∃ a cap, v = .slice a ss.length cap := by
  obtain ⟨a, cap, hv, _⟩ := h.strs
  exact ⟨a, cap, hv⟩
theorem M.empty_row (W : World) (T : TypeId) (base : Nat) (h : base ≤ W.heap.size) : (W.alloc (.cells #[] T)).ownsRow base T 1 (.slice (some ⟨W.heap.size, 0, none⟩) 0 0) 0 [] :=
  ⟨rfl, .inr ⟨_, 0, #[], rfl, h, heap_alloc_new _ _, Nat.le_refl _, by decide, rfl, rfl⟩⟩
theorem M.Strs.src {w : World} {ad : Addr} {len cap : Nat} {ss : List ByteArray} (h : M.Strs w (some ad) len cap ss) : ∀ j u, (ss.map Value.string)[j]? = some u → w.cell? (ad.add j) = some u := by
  intro j u hu
  rw [List.getElem?_map] at hu
  have hj : j < ss.length := by
    by_cases hj : j < ss.length
    · exact hj
    · rw [List.getElem?_eq_none (by omega)] at hu; cases hu
  rw [List.getElem?_eq_getElem hj] at hu
  obtain ⟨h1, -, -, h4⟩ := h
  obtain ⟨b, off, hb, hf⟩ := h4 (by omega)
  obtain rfl := Option.some.inj hb
  rw [Addr.add_lit, hf j hj]
  exact hu
end Go.Proofs.Ytappficbjjkmiaa

/-
  Worlds in which nothing changes but what is new, and the blocks of an interval.
-/
namespace Go.Proofs.Ytappficbjjkmiaa
open Go.RowKit

/-- Nothing changes but what is new, and blocks from one number on and below another. -/
structure M.Mid (lo hi : Nat) (w w' : World) : Prop where
  os : w'.os = w.os
  tape : w'.tape = w.tape
  output : w'.output = w.output
  size : w.heap.size ≤ w'.heap.size
  block : ∀ k, k < w.heap.size → (k < lo ∨ hi ≤ k) → w'.heap[k]? = w.heap[k]?
theorem M.Mid.refl (lo hi : Nat) (w : World) : M.Mid lo hi w w := ⟨rfl, rfl, rfl, Nat.le_refl _, fun _ _ _ => rfl⟩
theorem M.Mid.trans {lo hi : Nat} {a b c : World} (h : M.Mid lo hi a b) (k : M.Mid lo hi b c) : M.Mid lo hi a c :=
  ⟨k.os.trans h.os, k.tape.trans h.tape, k.output.trans h.output, Nat.le_trans h.size k.size, fun i hi ho => (k.block i (Nat.lt_of_lt_of_le hi h.size) ho).trans (h.block i hi ho)⟩
theorem M.Mid.of_below {lo hi : Nat} {a b : World} (h : Below a.heap.size a b) : M.Mid lo hi a b := ⟨h.os, h.tape, h.output, h.size, fun k hk _ => h.block k hk⟩
theorem M.Mid.of_grown {lo hi : Nat} {a b : World} {row : Option Nat} (h : a.grownBy b row) (hr : ∀ g, row = some g → lo ≤ g ∧ g < hi) : M.Mid lo hi a b :=
  ⟨h.os, h.tape, h.output, h.size, fun k hk ho => h.block k hk (fun e => by have := hr k e.symm; omega)⟩
theorem M.Mid.setCell {lo hi : Nat} {a b : World} (h : M.Mid lo hi a b) {g : Nat} (h1 : lo ≤ g) (h2 : g < hi) (j : Nat) (v : Value) : M.Mid lo hi a (b.setCell ⟨g, j, none⟩ v) :=
  ⟨h.os, h.tape, h.output, by have := h.size; simp [World.setCell]; omega, fun k hk ho => by rw [M.setfr (by omega)]; exact h.block k hk ho⟩
theorem M.Mid.below {lo hi : Nat} {a b : World} (h : M.Mid lo hi a b) (ha : lo ≤ a.heap.size) : Below lo a b := ⟨h.os, h.tape, h.output, h.size, fun k hk => h.block k (by omega) (.inl hk)⟩
theorem M.Mid.widen {lo hi lo' hi' : Nat} {a b : World} (h : M.Mid lo hi a b) (h1 : lo' ≤ lo) (h2 : hi ≤ hi') : M.Mid lo' hi' a b := ⟨h.os, h.tape, h.output, h.size, fun k hk ho => h.block k hk (by omega)⟩
theorem M.midB {lo hi : Nat} {w a b : World} (h : Below w.heap.size w a) (hm : M.Mid lo hi a b) (hl : w.heap.size ≤ lo) (ha : lo ≤ a.heap.size) : Below w.heap.size w b :=
  h.trans ((hm.below ha).mono hl)
end Go.Proofs.Ytappficbjjkmiaa

/-
  Rows of tapes that a call owns, with the blocks of each.
-/
namespace Go.Proofs.Ytappficbjjkmiaa
open Go.RowKit

/-- A tape, and the slice that its blocks lie in, as cells. -/
def M.tcells (p : M.TapeD × Value) : List Value := [.int .i64 p.1.lab, p.2, .int .i64 p.1.syn, .int .i64 p.1.room]
def M.cellsT (ps : List (M.TapeD × Value)) : List Value := ps.flatMap M.tcells
theorem M.cellsT_app (ps qs : List (M.TapeD × Value)) : M.cellsT (ps ++ qs) = M.cellsT ps ++ M.cellsT qs := by simp [M.cellsT]
theorem M.cellsT_one (p : M.TapeD × Value) : M.cellsT [p] = M.tcells p := by simp [M.cellsT]
theorem M.cellsT_len (ps : List (M.TapeD × Value)) : (M.cellsT ps).length = ps.length * 4 := by
  induction ps with
  | nil => rfl
  | cons f gs ih => simp only [M.cellsT, List.flatMap_cons, List.length_append, List.length_cons] at ih ⊢; rw [ih]; simp [M.tcells]; omega
theorem M.cellsT_get : ∀ (ps : List (M.TapeD × Value)) (i : Nat) (h : i < ps.length) (c : Nat), c < 4 → (M.cellsT ps)[i * 4 + c]? = (M.tcells ps[i])[c]?
  | [], i, h, _, _ => absurd h (Nat.not_lt_zero _)
  | f :: gs, 0, _, c, hc => by
    simp only [M.cellsT, List.flatMap_cons, Nat.zero_mul, Nat.zero_add, List.getElem_cons_zero]
    rw [List.getElem?_append_left (by simp [M.tcells]; omega)]
  | f :: gs, i + 1, h, c, hc => by
    simp only [M.cellsT, List.flatMap_cons, List.getElem_cons_succ]
    rw [List.getElem?_append_right (by simp [M.tcells]; omega), show (i + 1) * 4 + c - (M.tcells f).length = i * 4 + c by simp [M.tcells]; omega]
    exact M.cellsT_get gs i (by simpa using h) c hc

/-- The cells of tapes, from the first cell of a block on. -/
def M.PAt (w : World) (g : Nat) (ps : List (M.TapeD × Value)) : Prop := ∀ i p, ps[i]? = some p → w.cell? ⟨g, i * 4, none⟩ = some (.int .i64 p.1.lab) ∧ w.cell? ⟨g, i * 4 + 1, none⟩ = some p.2 ∧ w.cell? ⟨g, i * 4 + 2, none⟩ = some (.int .i64 p.1.syn) ∧ w.cell? ⟨g, i * 4 + 3, none⟩ = some (.int .i64 p.1.room)
theorem M.PAt.of_block {w w' : World} {g : Nat} {ps : List (M.TapeD × Value)} (h : M.PAt w g ps) (hb : w'.heap[g]? = w.heap[g]?) : M.PAt w' g ps := fun i p hp => by
  obtain ⟨h0, h1, h2, h3⟩ := h i p hp
  exact ⟨(World.cell?_of_block (a := ⟨g, i * 4, none⟩) hb).trans h0, (World.cell?_of_block (a := ⟨g, i * 4 + 1, none⟩) hb).trans h1, (World.cell?_of_block (a := ⟨g, i * 4 + 2, none⟩) hb).trans h2, (World.cell?_of_block (a := ⟨g, i * 4 + 3, none⟩) hb).trans h3⟩

theorem M.OwnS.mid {lo hi base : Nat} {w w' : World} {v : Value} {ss : List ByteArray} (h : M.OwnS w base v ss) (hm : M.Mid lo hi w w') (ho : ∀ g, v.ownBlock = some g → g < lo ∨ hi ≤ g) : M.OwnS w' base v ss := by
  obtain ⟨hl, h0 | ⟨g, cap, cur, hv, hg, hh, hr⟩⟩ := h
  · exact ⟨hl, .inl h0⟩
  · exact ⟨hl, .inr ⟨g, cap, cur, hv, hg, by rw [hm.block g (Array.getElem?_eq_some_iff.1 hh).1 (ho g (by rw [hv]; rfl))]; exact hh, hr⟩⟩
/-- The blocks of a tape are the call's own. -/
def M.own1 (w : World) (lo hi : Nat) (p : M.TapeD × Value) : Prop := M.OwnS w lo p.2 p.1.ss ∧ ∀ g, p.2.ownBlock = some g → g < hi
/-- No two tapes share a block. -/
def M.apart (ps : List (M.TapeD × Value)) : Prop := ps.Pairwise fun p q => ∀ g, p.2.ownBlock = some g → q.2.ownBlock ≠ some g
/-- A slice of tapes in a row that is the call's own, as are the blocks of each. -/
structure M.OwnT (w : World) (lo hi : Nat) (v : Value) (ps : List (M.TapeD × Value)) : Prop where
  row : w.ownsRow lo 36 4 v ps.length (M.cellsT ps)
  top : ∀ g, v.ownBlock = some g → g < hi
  each : ∀ p ∈ ps, M.own1 w lo hi p
  apart : M.apart ps

theorem M.row_of {w : World} {g cap lo : Nat} {ps : List (M.TapeD × Value)} (hat : M.PAt w g ps) (hr : M.Row w g 36 (cap * 4)) (hb : lo ≤ g) (hn : ps.length ≤ cap) (hc : cap ≤ maxLen) : w.ownsRow lo 36 4 (.slice (some ⟨g, 0, none⟩) ps.length cap) ps.length (M.cellsT ps) := by
  obtain ⟨cur, hh, hz⟩ := hr
  refine ⟨M.cellsT_len ps, .inr ⟨g, cap, cur, rfl, hb, hh, hn, hc, hz, ?_⟩⟩
  apply List.ext_getElem?
  intro t
  by_cases h : t < ps.length * 4
  · rw [List.getElem?_take_of_lt h]
    have hl2 : t / 4 < ps.length := by omega
    obtain ⟨c0, c1, c2, c3⟩ := hat (t / 4) _ (List.getElem?_eq_getElem hl2)
    have key : ∀ c, c < 4 → cur.toList[t / 4 * 4 + c]? = (M.tcells (ps[t / 4]))[c]? := fun c hc4 => by
      have hcell : w.cell? ⟨g, t / 4 * 4 + c, none⟩ = cur.toList[t / 4 * 4 + c]? := by simp [World.cell?, hh]
      rw [← hcell]
      match c, hc4 with
      | 0, _ => exact c0
      | 1, _ => exact c1
      | 2, _ => exact c2
      | 3, _ => exact c3
    have h1 := key (t % 4) (Nat.mod_lt _ (by decide))
    have h2 := M.cellsT_get ps (t / 4) hl2 (t % 4) (Nat.mod_lt _ (by decide))
    rw [show t / 4 * 4 + t % 4 = t by omega] at h1 h2
    rw [h1, h2]
  · rw [List.getElem?_eq_none (by rw [List.length_take]; exact Nat.le_trans (Nat.min_le_left _ _) (by omega)), List.getElem?_eq_none (by rw [M.cellsT_len]; omega)]
theorem M.pat_of {w : World} {g : Nat} {cur : Array Value} {ps : List (M.TapeD × Value)} (hh : w.heap[g]? = some (.cells cur 36 (0, 0))) (ht : cur.toList.take (ps.length * 4) = M.cellsT ps) : M.PAt w g ps := by
  intro i p hp
  obtain ⟨hi, rfl⟩ := List.getElem?_eq_some_iff.1 hp
  have cell : ∀ c, c < 4 → w.cell? ⟨g, i * 4 + c, none⟩ = (M.tcells ps[i])[c]? := fun c hcc => by
    rw [← M.cellsT_get ps i hi c hcc, ← ht, List.getElem?_take_of_lt (by omega)]
    simp [World.cell?, hh]
  exact ⟨cell 0 (by omega), cell 1 (by omega), cell 2 (by omega), cell 3 (by omega)⟩
theorem M.OwnT.nil (w : World) (lo hi : Nat) : M.OwnT w lo hi (.slice none 0 0) [] := ⟨⟨rfl, .inl ⟨rfl, rfl⟩⟩, (fun g h => by cases h), (fun p h => by simp at h), List.Pairwise.nil⟩
theorem M.OwnT.len {w : World} {lo hi : Nat} {v : Value} {ps : List (M.TapeD × Value)} (h : M.OwnT w lo hi v ps) : ∃ a cap, v = .slice a ps.length cap := by
  obtain ⟨⟨hl, ⟨rfl, h0⟩ | ⟨g, cap, cur, rfl, -⟩⟩, -, -, -⟩ := h
  · exact ⟨none, 0, by rw [h0]⟩
  · exact ⟨_, cap, rfl⟩
theorem M.OwnT.mid {lo hi lo' hi' : Nat} {w w' : World} {v : Value} {ps : List (M.TapeD × Value)} (h : M.OwnT w lo hi v ps) (hm : M.Mid lo' hi' w w') (ho : hi ≤ lo' ∨ hi' ≤ lo) : M.OwnT w' lo hi v ps := by
  obtain ⟨⟨hl, hr⟩, ht, he, ha⟩ := h
  refine ⟨⟨hl, ?_⟩, ht, fun p hp => ⟨(he p hp).1.mid hm (fun g hg => ?_), (he p hp).2⟩, ha⟩
  · rcases hr with h0 | ⟨g, cap, cur, hv, hg, hh, hr⟩
    · exact .inl h0
    · have := ht g (by rw [hv]; rfl)
      exact .inr ⟨g, cap, cur, hv, hg, by rw [hm.block g (Array.getElem?_eq_some_iff.1 hh).1 (by omega)]; exact hh, hr⟩
  · have h1 := (he p hp).2 g hg
    have h2 := (World.ownsRow.lt (he p hp).1 g hg).1
    omega
theorem M.OwnT.below {lo hi : Nat} {w w' : World} {v : Value} {ps : List (M.TapeD × Value)} (h : M.OwnT w lo hi v ps) (hb : Below w.heap.size w w') : M.OwnT w' lo hi v ps := by
  obtain ⟨⟨hl, hr⟩, ht, he, ha⟩ := h
  refine ⟨⟨hl, ?_⟩, ht, fun p hp => ⟨(he p hp).1.below hb, (he p hp).2⟩, ha⟩
  rcases hr with h0 | ⟨g, cap, cur, hv, hg, hh, hr⟩
  · exact .inl h0
  · exact .inr ⟨g, cap, cur, hv, hg, by rw [hb.block g (Array.getElem?_eq_some_iff.1 hh).1]; exact hh, hr⟩
theorem M.OwnT.widen {lo hi lo' hi' : Nat} {w : World} {v : Value} {ps : List (M.TapeD × Value)} (h : M.OwnT w lo hi v ps) (h1 : lo' ≤ lo) (h2 : hi ≤ hi') : M.OwnT w lo' hi' v ps := by
  obtain ⟨⟨hl, hr⟩, ht, he, ha⟩ := h
  refine ⟨⟨hl, ?_⟩, fun g hg => Nat.lt_of_lt_of_le (ht g hg) h2, fun p hp => ⟨(he p hp).1.lower h1, fun g hg => Nat.lt_of_lt_of_le ((he p hp).2 g hg) h2⟩, ha⟩
  rcases hr with h0 | ⟨g, cap, cur, hv, hg, hr⟩
  · exact .inl h0
  · exact .inr ⟨g, cap, cur, hv, Nat.le_trans h1 hg, hr⟩
theorem M.OwnS.noneCap {w : World} {lo n c : Nat} {v : Value} {ss : List ByteArray} {a : Option Addr} (h : M.OwnS w lo v ss) (e : v = .slice a n c) : a = none → c = 0 := by
  intro ha
  subst ha
  obtain ⟨-, ⟨h0, -⟩ | ⟨g, cap, cur, h0, -⟩⟩ := h
  · rw [h0] at e; cases e; rfl
  · rw [h0] at e; cases e
/-- As tapes that are read. -/
theorem M.OwnT.tps {lo hi : Nat} {w : World} {v : Value} {ps : List (M.TapeD × Value)} (h : M.OwnT w lo hi v ps) : ∃ a cap, v = .slice a ps.length cap ∧ M.Tps w a ps.length cap (ps.map Prod.fst) := by
  obtain ⟨⟨hl, ⟨rfl, h0⟩ | ⟨g, cap, cur, rfl, hg, hh, hn, hc, hz, htk⟩⟩, ht, he, ha⟩ := h
  · exact ⟨none, 0, by rw [h0], by simp, by omega, Nat.zero_le _, fun h => by omega⟩
  · refine ⟨_, cap, rfl, by simp, hn, hc, fun _ => ⟨g, 0, rfl, fun i hi => ?_⟩⟩
    rw [List.length_map] at hi
    obtain ⟨c0, c1, c2, c3⟩ := M.pat_of hh htk i _ (List.getElem?_eq_getElem hi)
    obtain ⟨a', cap', e, hs⟩ := (he ps[i] (List.getElem_mem hi)).1.strs
    rw [List.getElem_map, Nat.zero_add]
    exact ⟨c0, ⟨a', _, cap', by rw [← e]; exact c1, hs, M.OwnS.noneCap (v := (ps[i]).2) (he ps[i] (List.getElem_mem hi)).1 e⟩, c2, c3⟩
/-- No tape's blocks lie where the tapes lie. -/
theorem M.OwnT.notIn {lo hi : Nat} {w : World} {v : Value} {ps : List (M.TapeD × Value)} (h : M.OwnT w lo hi v ps) {p : M.TapeD × Value} (hp : p ∈ ps) {g : Nat} (hv : v.ownBlock = some g) : p.2.ownBlock ≠ some g := by
  obtain ⟨⟨hl, ⟨rfl, h0⟩ | ⟨g', cap, cur, rfl, hg, hh, -⟩⟩, ht, he, ha⟩ := h
  · cases hv
  · obtain rfl := Option.some.inj hv
    obtain ⟨-, ⟨e, -⟩ | ⟨b, cb, cu, e, -, hb, -⟩⟩ := (he p hp).1
    · rw [e]; intro h; cases h
    · rw [e]
      intro h
      obtain rfl := Option.some.inj h
      rw [hh] at hb
      have := Option.some.inj hb
      simp at this
theorem M.oneCellT {lo hi : Nat} {w : World} {p : M.TapeD × Value} (h : M.own1 w lo hi p) : ∀ v ∈ M.tcells p, v.oneCell' = true := by
  intro v hv
  simp [M.tcells] at hv
  rcases hv with rfl | rfl | rfl | rfl
  · rfl
  · obtain ⟨a, c, e⟩ := h.1.len
    rw [e]; rfl
  · rfl
  · rfl
theorem M.OwnT.at_slice {w : World} {lo hi : Nat} {a : Option Addr} {n c : Nat} {ps : List (M.TapeD × Value)} {ts : List M.TapeD} (h : M.OwnT w lo hi (.slice a n c) ps) (hp : ps.map Prod.fst = ts) : M.Tps w a n c ts := by
  obtain ⟨a', c', e, hv⟩ := h.tps
  cases e
  rwa [hp] at hv
end Go.Proofs.Ytappficbjjkmiaa

/-
  What toTape and toTapeS of the laws do: tapes of the call's own.
-/
namespace Go.Proofs.Ytappficbjjkmiaa
open Go.RowKit

theorem Try.infoTp : (Try.prog.info? 36).map (fun i => (i.zero, i.size, i.bytes)) = some (some (.agg #[.int .i64 0, .slice none 0 0, .int .i64 0, .int .i64 0]), 4, 48) := by kernel_rfl
theorem M.ownS_of {w : World} {g lo : Nat} {ss : List ByteArray} (hat : M.StrsAt w g 0 ss) (hr : M.Row w g 9 ss.length) (hb : lo ≤ g) (hl : ss.length ≤ maxLen) : M.OwnS w lo (.slice (some ⟨g, 0, none⟩) ss.length ss.length) ss := by
  obtain ⟨cur, hh, hz⟩ := hr
  refine ⟨by simp, .inr ⟨g, ss.length, cur, rfl, hb, hh, Nat.le_refl _, hl, by rw [hz, Nat.mul_one], ?_⟩⟩
  apply List.ext_getElem?
  intro t
  rw [Nat.mul_one]
  by_cases h : t < ss.length
  · rw [List.getElem?_take_of_lt h]
    have hc := hat t h
    rw [Nat.zero_add] at hc
    rw [List.getElem?_map, List.getElem?_eq_getElem h, Option.map_some, ← hc]
    simp [World.cell?, hh]
  · rw [List.getElem?_eq_none (by rw [List.length_take]; exact Nat.le_trans (Nat.min_le_left _ _) (by omega)), List.getElem?_eq_none (by simp; omega)]
theorem toStringS_own (w : World) (a : Option Addr) (len cap : Nat) (ss : List ByteArray) (h : M.Strs w a len cap ss) (hlen : len ≤ 1048576) :
    Calls Try.prog 83 #[.slice a len cap] w fun e w' => ∃ b : Nat, e = .returned (.slice (some ⟨b, 0, none⟩) len len) ∧ w.heap.size ≤ b ∧ M.OwnS w' w.heap.size (.slice (some ⟨b, 0, none⟩) len len) ss ∧ Below w.heap.size w w' := by
  refine (toStringS_any w a len cap ss h hlen).mono ?_
  rintro e w' ⟨rfl, hat, hr, hb⟩
  obtain rfl := h.1
  exact ⟨_, rfl, Nat.le_refl _, M.ownS_of hat hr (Nat.le_refl _) (by unfold maxLen; omega), hb⟩

set_option maxRecDepth 100000 in
set_option maxHeartbeats 1600000 in
theorem toTape_any (w : World) (a : Option Addr) (n c : Nat) (ss : List ByteArray) (x y z : Int) (h : M.Strs w a n c ss) (hl : n ≤ 1048576) :
    Calls Try.prog 67 #[.agg #[.int .i64 x, .slice a n c, .int .i64 y, .int .i64 z]] w fun e w' => ∃ b : Nat, e = .returned (.agg #[.int .i64 x, .slice (some ⟨b, 0, none⟩) n n, .int .i64 y, .int .i64 z]) ∧
      M.OwnS w' w.heap.size (.slice (some ⟨b, 0, none⟩) n n) ss ∧ w.heap.size ≤ b ∧ Below w.heap.size w w' := by
  have CS : Hid (∀ W, Below w.heap.size w W → w.heap.size + 1 + 1 + 1 = W.heap.size → Calls Try.prog 83 #[.slice a n c] W fun e w' => ∃ b : Nat, e = .returned (.slice (some ⟨b, 0, none⟩) n n) ∧ w.heap.size + 1 + 1 + 1 ≤ b ∧ M.OwnS w' (w.heap.size + 1 + 1 + 1) (.slice (some ⟨b, 0, none⟩) n n) ss ∧ Below W.heap.size W w') := fun W hW hs => by
    rw [hs]; exact toStringS_own W a n c ss (h.below hW) hl
  clear h
  obtain ⟨W3, hW3⟩ : ∃ W3, W3 = ((w.alloc (.cells #[.int .i64 x, .slice a n c, .int .i64 y, .int .i64 z] 95)).alloc (.cells #[.int .i64 0, .slice none 0 0, .int .i64 0, .int .i64 0] 36)).alloc (.cells #[.int .i64 x, .slice none 0 0, .int .i64 0, .int .i64 0] 36) := ⟨_, rfl⟩
  obtain ⟨t0, t1, t2⟩ := M.thr3 w (.cells #[.int .i64 x, .slice a n c, .int .i64 y, .int .i64 z] 95) (.cells #[.int .i64 0, .slice none 0 0, .int .i64 0, .int .i64 0] 36) (.cells #[.int .i64 x, .slice none 0 0, .int .i64 0, .int .i64 0] 36)
  rw [← hW3] at t0 t1 t2
  have T0 := M.hl t0
  have T1 := M.hl t1
  have T2 := M.hl t2
  have B3 : Hid (Below w.heap.size w W3) := by rw [hW3]; exact (((Below.refl _ _).alloc (Nat.le_refl _) _).alloc (by simp) _).alloc (by simp; omega) _
  have Z3 : Hid (W3.heap.size = w.heap.size + 1 + 1 + 1) := by rw [hW3]; show _ = _; simp
  clear t0 t1 t2
  go_enter Try.func67, Try.ntmps67
  go_wp2_with fail
  rw [← hW3]
  refine (CS.out _ B3.out (by have := Z3.out; omega)).mono ?_
  rintro e w1 ⟨b, rfl, hbb, hO, hb⟩
  have O1 := M.hl hO
  have HB := M.hl hbb
  have hz := Z3.out
  have B1 : Hid (Below w.heap.size w w1) := B3.out.trans (hb.mono B3.out.size)
  have u0 := (hb.block w.heap.size (by rw [hz]; omega)).trans T0.out
  have u1 := (hb.block (w.heap.size + 1) (by rw [hz]; omega)).trans T1.out
  have u2 := (hb.block (w.heap.size + 1 + 1) (by rw [hz]; omega)).trans T2.out
  have k2 := M.bk_cell u0 2 (.int .i64 y) rfl
  have k3 := M.bk_cell u0 3 (.int .i64 z) rfl
  have r0 := M.bk_cell u1 0 (.int .i64 0) rfl
  have r1 := M.bk_cell u1 1 (.slice none 0 0) rfl
  have r2 := M.bk_cell u1 2 (.int .i64 0) rfl
  have r3 := M.bk_cell u1 3 (.int .i64 0) rfl
  have s0 := M.bk_cell u2 0 (.int .i64 x) rfl
  have s1 := M.bk_cell u2 1 (.slice none 0 0) rfl
  have s2 := M.bk_cell u2 2 (.int .i64 0) rfl
  have s3 := M.bk_cell u2 3 (.int .i64 0) rfl
  have fr := M.bk_free u1
  have ft := M.bk_free u2
  clear hO hb hW3 hbb u0 u1 u2 hz
  go_wp2
  refine bodyPost_ret (v := .agg #[.int .i64 x, .slice (some ⟨b, 0, none⟩) n n, .int .i64 y, .int .i64 z]) (by simp [results, Try.results67, go_sem, r0, r1, r2, r3]) rfl ⟨_, rfl, ?_, by have := HB.out; omega, ?_⟩
  · exact (((((((O1.out.setLow (by omega) _ _).setLow (by omega) _ _).setLow (by omega) _ _).setLow (by omega) _ _).setLow (by omega) _ _).setLow (by omega) _ _).setLow (by omega) _ _).lower (by omega)
  · exact ((((((B1.out.setCell (by simp; omega) _).setCell (by simp; omega) _).setCell (by simp; omega) _).setCell (by simp) _).setCell (by simp) _).setCell (by simp) _).setCell (by simp) _
end Go.Proofs.Ytappficbjjkmiaa

/-
  What szStringS, szTape and szTapeS of the laws do: how much is left.
-/
namespace Go.Proofs.Ytappficbjjkmiaa
open Go.RowKit

/-- How many blocks all tapes have. -/
def M.tln (ts : List M.TapeD) : Nat := (ts.map fun t => t.ss.length).sum
theorem M.tln_app (ts us : List M.TapeD) : M.tln (ts ++ us) = M.tln ts + M.tln us := by simp [M.tln]
theorem M.tln_one (t : M.TapeD) : M.tln [t] = t.ss.length := by simp [M.tln]
theorem M.take_snocG {α : Type} {l : List α} {k : Nat} {x : α} (h : l[k]? = some x) : l.take (k + 1) = l.take k ++ [x] := by
  rw [List.take_add_one, h]; rfl
theorem M.tln_take {ts : List M.TapeD} {k : Nat} {t : M.TapeD} (h : ts[k]? = some t) : M.tln (ts.take (k + 1)) = M.tln (ts.take k) + t.ss.length := by
  rw [M.take_snocG h, M.tln_app, M.tln_one]

set_option maxRecDepth 100000 in
set_option maxHeartbeats 1600000 in
theorem szStringS_left (w : World) (a : Option Addr) (len cap : Nat) (ss : List ByteArray) (left : Int) (h : M.Strs w a len cap ss) (hok : ∀ s ∈ ss, s.size ≤ maxLen) (h3 : 0 ≤ left) (h4 : left ≤ 1048576) :
    Calls Try.prog 82 #[.slice a len cap, .int .i64 left] w fun e w' => ∃ v : Int, e = .returned (.int .i64 v) ∧ v ≤ 1048576 ∧ (0 ≤ v → v + len ≤ left ∧ ∀ s ∈ ss, (s.size : Int) ≤ left) ∧ w = w' := by
  have hlm : len ≤ 9223372036854775807 := by obtain ⟨_, h1, h2, _⟩ := h; unfold maxLen at h2; omega
  have HF : Hid (M.Strs w a len cap ss) := h
  have HOK : Hid (∀ s ∈ ss, s.size ≤ maxLen) := hok
  clear h hok
  by_cases hl : left - len < 0
  · go_enter Try.func82, Try.ntmps82
    go_wp2
    go_ret
    exact ⟨-1, rfl, by omega, fun h => by omega, rfl⟩
  go_enter Try.func82, Try.ntmps82
  go_wp2
  go_loop [1, 5] (fun z i => ∃ (k : Nat) (l : Int), i = .int .i64 k ∧ z = .int .i64 l ∧ k ≤ len ∧ 0 ≤ l ∧ l + len ≤ left ∧ Hid (∀ s ∈ ss.take k, (s.size : Int) ≤ left)) (fun _ i => len - (intOf i).toNat)
  case atStart => exact ⟨0, _, rfl, rfl, Nat.zero_le _, by omega, by omega, fun f hf => by simp at hf⟩
  case round =>
    obtain ⟨k, l, rfl, rfl, hk, hl0, hl1, HA⟩ := hrel
    by_cases hlt : k < len
    · obtain ⟨hfl, _, _, hfa⟩ := HF.out
      obtain ⟨b, off, rfl, hat⟩ := hfa (by omega)
      have c0 := hat k (by omega)
      have hfk := List.getElem?_eq_getElem (l := ss) (i := k) (by omega)
      generalize ss[k]'(by omega) = s at c0 hfk
      have HFK : Hid (ss[k]? = some s) := hfk
      have o1 : s.size ≤ 9223372036854775807 := by have := HOK.out s (List.mem_of_getElem? hfk); unfold maxLen at this; omega
      clear hfk hat hfa hfl
      by_cases hs : l - s.size < 0
      · go_wp2
        go_ret
        exact ⟨-1, rfl, by omega, fun h => by omega, rfl⟩
      · have HA2 : Hid (∀ s ∈ ss.take (k + 1), (s.size : Int) ≤ left) := by
          show ∀ f ∈ _, _
          rw [M.take_snocS HFK.out]
          intro g hg
          rcases List.mem_append.1 hg with h | h
          · exact HA.out g h
          · obtain rfl := List.mem_singleton.1 h
            omega
        go_wp2
        go_round
        case rel => exact ⟨k + 1, l - s.size, by go_num, rfl, by omega, by omega, by omega, HA2⟩
        case measure => simp [intOf]; omega
    · have hall : ss.take k = ss := List.take_of_length_le (by have := HF.out.1; omega)
      have HA3 : Hid (∀ s ∈ ss, (s.size : Int) ≤ left) := by have := HA.out; rw [hall] at this; exact this
      clear hall
      go_wp2
      go_ret
      exact ⟨l, rfl, by omega, fun _ => ⟨by omega, HA3.out⟩, rfl⟩

set_option maxRecDepth 100000 in
set_option maxHeartbeats 800000 in
theorem szTape_any (w : World) (a : Option Addr) (n c : Nat) (ss : List ByteArray) (x y z left : Int) (h : M.Strs w a n c ss) (hok : ∀ s ∈ ss, s.size ≤ maxLen) (h3 : 0 ≤ left) (h4 : left ≤ 1048576) :
    Calls Try.prog 66 #[.agg #[.int .i64 x, .slice a n c, .int .i64 y, .int .i64 z], .int .i64 left] w fun e w' => ∃ v : Int, e = .returned (.int .i64 v) ∧ v ≤ 1048576 ∧ (0 ≤ v → v + n ≤ left ∧ ∀ s ∈ ss, (s.size : Int) ≤ left) ∧ Below w.heap.size w w' := by
  have HB : Hid (∀ o, Below w.heap.size w (w.alloc o)) := fun o => (Below.refl _ _).alloc (Nat.le_refl _) _
  have CS : Hid (∀ o, Calls Try.prog 82 #[.slice a n c, .int .i64 left] (w.alloc o) fun e w' => ∃ v : Int, e = .returned (.int .i64 v) ∧ v ≤ 1048576 ∧ (0 ≤ v → v + n ≤ left ∧ ∀ s ∈ ss, (s.size : Int) ≤ left) ∧ w.alloc o = w') := fun o => szStringS_left _ a n c ss left (h.below (HB.out o)) hok h3 h4
  clear h hok
  go_enter Try.func66, Try.ntmps66
  go_wp2_with fail
  refine (CS.out _).mono ?_
  rintro e w1 ⟨v, rfl, hv1, hv2, rfl⟩
  have HV2 := M.hl hv2
  clear hv2
  by_cases hneg : v < 0
  · go_wp2
    go_ret
    exact ⟨-1, rfl, by omega, fun h => by omega, HB.out _⟩
  · go_wp2
    go_ret
    exact ⟨v, rfl, hv1, HV2.out, HB.out _⟩

set_option maxRecDepth 100000 in
set_option maxHeartbeats 1600000 in
theorem szTapeS_any (w : World) (a : Option Addr) (len cap : Nat) (ts : List M.TapeD) (h : M.Tps w a len cap ts) (hok : ∀ t ∈ ts, M.tok t) :
    Calls Try.prog 25 #[.slice a len cap, .int .i64 1048576] w fun e w' => ∃ v : Int, e = .returned (.int .i64 v) ∧ v ≤ 1048576 ∧ (0 ≤ v → v + len + M.tln ts ≤ 1048576 ∧ ∀ t ∈ ts, ∀ s ∈ t.ss, (s.size : Int) ≤ 1048576) ∧ Below w.heap.size w w' := by
  have hlm : len ≤ 9223372036854775807 := h.max
  have HF := M.hl h
  have HOK := M.hl hok
  clear h hok
  by_cases hl : (1048576 : Int) - len < 0
  · go_enter Try.func25, Try.ntmps25
    go_wp2
    go_ret
    exact ⟨-1, rfl, by omega, fun h => by omega, Below.refl _ _⟩
  go_enter Try.func25, Try.ntmps25
  go_wp2
  go_loopw [1, 5] (fun z i wr => ∃ (k : Nat) (l : Int), i = .int .i64 k ∧ z = .int .i64 l ∧ k ≤ len ∧ 0 ≤ l ∧ l ≤ 1048576 ∧ Hid (l + len + M.tln (ts.take k) ≤ 1048576) ∧ Hid (∀ t ∈ ts.take k, ∀ s ∈ t.ss, (s.size : Int) ≤ 1048576) ∧ Hid (Below w.heap.size w wr)) (fun _ i _ => len - (intOf i).toNat)
  case atStart => exact ⟨0, _, rfl, rfl, Nat.zero_le _, by omega, by omega, by show _ ≤ _; simp [M.tln], fun f hf => by simp at hf, Below.refl _ _⟩
  case round =>
    obtain ⟨k, l, rfl, rfl, hk, hl0, hl2, HL, HA, HBr⟩ := hrel
    by_cases hlt : k < len
    · obtain ⟨b, off, t, rfl, hfk, hat⟩ := (HF.out.below HBr.out).at hlt
      have HFK := M.hl hfk
      have ho := (HOK.out t (List.mem_of_getElem? hfk)).1
      have HO := M.hl ho
      obtain ⟨x, ss, y, z⟩ := t
      obtain ⟨c0, ⟨a', n', c', c1, hs, -⟩, c2, c3⟩ := hat
      simp only at c0 c1 c2 c3 hs
      have HN : Hid (n' = ss.length) := hs.1
      have CS : Hid (Calls Try.prog 66 #[.agg #[.int .i64 x, .slice a' n' c', .int .i64 y, .int .i64 z], .int .i64 l] wr fun e w' => ∃ v : Int, e = .returned (.int .i64 v) ∧ v ≤ 1048576 ∧ (0 ≤ v → v + n' ≤ l ∧ ∀ s ∈ ss, (s.size : Int) ≤ l) ∧ Below wr.heap.size wr w') := szTape_any wr a' n' c' ss x y z l hs ho hl0 hl2
      clear hs hfk ho
      go_wp2_with fail
      refine CS.out.mono ?_
      rintro e w2 ⟨v, rfl, hv1, hv2, hb2⟩
      have HV2 := M.hl hv2
      have HB2 : Hid (Below w.heap.size w w2) := HBr.out.trans (hb2.mono HBr.out.size)
      clear hv2 hb2 c0 c1 c2 c3
      by_cases hneg : v < 0
      · go_wp2
        go_ret
        exact ⟨-1, rfl, by omega, fun h => by omega, HB2.out⟩
      · have HL2 : Hid (v + len + M.tln (ts.take (k + 1)) ≤ 1048576) := by
          show _ ≤ _
          rw [M.tln_take HFK.out]
          have := HL.out
          have := (HV2.out (by omega)).1
          have := HN.out
          simp only
          omega
        have HA2 : Hid (∀ t ∈ ts.take (k + 1), ∀ s ∈ t.ss, (s.size : Int) ≤ 1048576) := by
          show ∀ f ∈ _, _
          rw [M.take_snocG HFK.out]
          intro g hg s hs
          rcases List.mem_append.1 hg with h | h
          · exact HA.out g h s hs
          · obtain rfl := List.mem_singleton.1 h
            have := (HV2.out (by omega)).2 s hs
            omega
        go_wp2
        go_roundw
        case rel => exact ⟨k + 1, v, by go_num, rfl, by omega, by omega, by omega, HL2, HA2, HB2⟩
        case measure => simp [intOf]; omega
    · have hall : ts.take k = ts := List.take_of_length_le (by have := HF.out.1; omega)
      have HA3 : Hid (l + len + M.tln ts ≤ 1048576 ∧ ∀ t ∈ ts, ∀ s ∈ t.ss, (s.size : Int) ≤ 1048576) := by have h1 := HL.out; have h2 := HA.out; rw [hall] at h1 h2; exact ⟨h1, h2⟩
      clear hall
      go_wp2
      go_ret
      exact ⟨l, rfl, by omega, fun _ => HA3.out, HBr.out⟩
end Go.Proofs.Ytappficbjjkmiaa

/-
  What toTapeS of the laws does: a row of tapes of the call's own.
-/
namespace Go.Proofs.Ytappficbjjkmiaa
open Go.RowKit

theorem M.co4 {W : World} {H i j : Nat} {v : Value} (h : i ≠ j) : (W.setCell ⟨H, i, none⟩ v).cell? ⟨H, j, none⟩ = W.cell? ⟨H, j, none⟩ := World.cell?_setCell_other _ _ _ _ (by intro e; simp only [Addr.mk.injEq] at e; omega)
/-- The cells of one tape more, each stored. -/
theorem M.PAt.push {w : World} {g k N : Nat} {T : TypeId} {ps : List (M.TapeD × Value)} {x y z : Int} {u : Value} {ss : List ByteArray} (h : M.PAt w g ps) (hr : M.Row w g T N) (hk : ps.length = k) (hN : k * 4 + 4 ≤ N) :
    M.PAt ((((w.setCell ⟨g, k * 4, none⟩ (.int .i64 x)).setCell ⟨g, k * 4 + 1, none⟩ u).setCell ⟨g, k * 4 + 2, none⟩ (.int .i64 y)).setCell ⟨g, k * 4 + 3, none⟩ (.int .i64 z)) g (ps ++ [(⟨x, ss, y, z⟩, u)]) := by
  intro i p hp
  by_cases e : i = k
  · subst e
    rw [← hk] at hp
    simp at hp
    subst hp
    obtain ⟨v0, g0⟩ := hr.cell (i := i * 4) (by omega)
    obtain ⟨v1, g1⟩ := hr.cell (i := i * 4 + 1) (by omega)
    obtain ⟨v2, g2⟩ := hr.cell (i := i * 4 + 2) (by omega)
    obtain ⟨v3, g3⟩ := hr.cell (i := i * 4 + 3) (by omega)
    refine ⟨?_, ?_, ?_, ?_⟩
    · rw [M.co4 (by omega), M.co4 (by omega), M.co4 (by omega), World.cell?_setCell_same _ _ _ g0]
    · rw [M.co4 (by omega), M.co4 (by omega), World.cell?_setCell_same _ _ _ ((M.co4 (by omega)).trans g1)]
    · rw [M.co4 (by omega), World.cell?_setCell_same _ _ _ ((M.co4 (by omega)).trans ((M.co4 (by omega)).trans g2))]
    · rw [World.cell?_setCell_same _ _ _ ((M.co4 (by omega)).trans ((M.co4 (by omega)).trans ((M.co4 (by omega)).trans g3)))]
  · have hi : i < (ps ++ [((⟨x, ss, y, z⟩ : M.TapeD), u)]).length := (List.getElem?_eq_some_iff.1 hp).1
    rw [List.length_append] at hi
    simp at hi
    have hi' : i < ps.length := by omega
    rw [List.getElem?_append_left hi'] at hp
    obtain ⟨c0, c1, c2, c3⟩ := h i p hp
    refine ⟨?_, ?_, ?_, ?_⟩
    · rw [M.co4 (by omega), M.co4 (by omega), M.co4 (by omega), M.co4 (by omega)]; exact c0
    · rw [M.co4 (by omega), M.co4 (by omega), M.co4 (by omega), M.co4 (by omega)]; exact c1
    · rw [M.co4 (by omega), M.co4 (by omega), M.co4 (by omega), M.co4 (by omega)]; exact c2
    · rw [M.co4 (by omega), M.co4 (by omega), M.co4 (by omega), M.co4 (by omega)]; exact c3
theorem M.apart_snoc {ps : List (M.TapeD × Value)} {p : M.TapeD × Value} (h : M.apart ps) (hp : ∀ q ∈ ps, ∀ g, q.2.ownBlock = some g → p.2.ownBlock ≠ some g) : M.apart (ps ++ [p]) := by
  unfold M.apart
  rw [List.pairwise_append]
  refine ⟨h, by simp, fun a ha b hb => ?_⟩
  obtain rfl := List.mem_singleton.1 hb
  exact hp a ha
/-- Tapes whose blocks are the call's own, above a place. -/
def M.ownAll (w : World) (lo : Nat) (ps : List (M.TapeD × Value)) : Prop := (∀ p ∈ ps, M.own1 w lo w.heap.size p) ∧ M.apart ps
theorem M.ownAll.below {w w' : World} {lo : Nat} {ps : List (M.TapeD × Value)} (h : M.ownAll w lo ps) (hb : Below w.heap.size w w') : M.ownAll w' lo ps :=
  ⟨fun p hp => ⟨(h.1 p hp).1.below hb, fun g hg => Nat.lt_of_lt_of_le ((h.1 p hp).2 g hg) hb.size⟩, h.2⟩
theorem M.ownAll.set {w : World} {lo H : Nat} {ps : List (M.TapeD × Value)} (h : M.ownAll w lo ps) (hH : H < lo) (j : Nat) (v : Value) : M.ownAll (w.setCell ⟨H, j, none⟩ v) lo ps :=
  ⟨fun p hp => ⟨(h.1 p hp).1.setLow hH j v, fun g hg => by have := (h.1 p hp).2 g hg; simpa [World.setCell] using this⟩, h.2⟩
theorem M.ownAll.snoc {w : World} {lo : Nat} {ps : List (M.TapeD × Value)} {p : M.TapeD × Value} (h : M.ownAll w lo ps) (ho : M.OwnS w lo p.2 p.1.ss) (hn : ∀ q ∈ ps, ∀ g, q.2.ownBlock = some g → p.2.ownBlock ≠ some g) : M.ownAll w lo (ps ++ [p]) :=
  ⟨fun q hq => by
    rcases List.mem_append.1 hq with h1 | h1
    · exact h.1 q h1
    · obtain rfl := List.mem_singleton.1 h1
      exact ⟨ho, fun g hg => (World.ownsRow.lt ho g hg).2⟩, M.apart_snoc h.2 hn⟩

set_option maxRecDepth 100000 in
set_option maxHeartbeats 3200000 in
theorem toTapeS_any (w : World) (a : Option Addr) (len cap : Nat) (ts : List M.TapeD) (h : M.Tps w a len cap ts) (hlen : len + M.tln ts ≤ 1048576) :
    Calls Try.prog 26 #[.slice a len cap] w fun e w' => ∃ (b : Nat) (ps : List (M.TapeD × Value)), e = .returned (.slice (some ⟨b, 0, none⟩) len len) ∧ ps.map Prod.fst = ts ∧ M.OwnT w' w.heap.size w'.heap.size (.slice (some ⟨b, 0, none⟩) len len) ps ∧ Below w.heap.size w w' := by
  obtain ⟨i0, hi, hz0, hz1, hz2⟩ := info_parts Try.infoTp
  have HF := M.hl h
  have HN : Hid (len = ts.length) := h.1
  clear h
  go_enter Try.func26, Try.ntmps26
  go_wp2_with (at_make; refine wpList_make_full _ rfl (.tmp 6) (.tmp 6) 23 rfl w.heap.size 36 i0 _ 4 Try.underlying23 hi hz0 hz1 .i64 .i64 _ _ len rfl rfl rfl rfl ?c3 ?c4 ?c5 ?_)
  case c3 => rw [hz2]; omega
  case c4 => unfold maxLen; omega
  case c5 => exact Nat.le_refl _
  intro w1 hown hgrow
  have hrow : M.Row w1 w.heap.size 36 (len * 4) := by
    obtain ⟨hl, h | ⟨g, cp, cur, hv, hb, hh, hn, hc, hz, ht⟩⟩ := hown
    · simp at h
    · simp only [Value.slice.injEq, Option.some.injEq, Addr.mk.injEq] at hv
      obtain ⟨⟨rfl, _, _⟩, _, rfl⟩ := hv
      exact ⟨cur, hh, hz⟩
  have hb1 : Below w.heap.size w w1 := ⟨hgrow.os, hgrow.tape, hgrow.output, hgrow.size, fun k hk => hgrow.block k hk (by simp)⟩
  have HROW := M.hl hrow
  have HB1 := M.hl hb1
  clear hown hgrow hrow hb1
  go_wp2
  go_loopw [4] (fun i wr => ∃ (k : Nat) (ps : List (M.TapeD × Value)), i = .int .i64 k ∧ k ≤ len ∧ Hid (M.Row wr w.heap.size 36 (len * 4)) ∧ Hid (ps.map Prod.fst = ts.take k) ∧ Hid (M.PAt wr w.heap.size ps) ∧ Hid (M.ownAll wr (w.heap.size + 1) ps) ∧ Hid (Below w.heap.size w wr)) (fun i _ => len - (intOf i).toNat)
  case atStart => exact ⟨0, [], rfl, Nat.zero_le _, HROW, rfl, (fun i p hp => by simp at hp), ⟨fun p hp => by simp at hp, List.Pairwise.nil⟩, HB1⟩
  case round =>
    obtain ⟨k, ps, rfl, hk, HRr, HM, HPr, HOr, HBr⟩ := hrel
    have HPL : Hid (ps.length = k) := by
      show _ = _
      have := congrArg List.length HM.out
      rw [List.length_map, List.length_take, ← HN.out] at this
      omega
    by_cases hlt : k < len
    · obtain ⟨b, off, t, rfl, hfk, hat⟩ := (HF.out.below HBr.out).at hlt
      have HFK := M.hl hfk
      obtain ⟨x, ss, y, z⟩ := t
      obtain ⟨c0, ⟨a', n', c', c1, hs, -⟩, c2, c3⟩ := hat
      simp only at c0 c1 c2 c3 hs
      have hn1 : n' ≤ 1048576 := by
        have h1 := M.tln_take hfk
        have h2 : M.tln ts = M.tln (ts.take (k + 1)) + M.tln (ts.drop (k + 1)) := by rw [← M.tln_app, List.take_append_drop]
        have h3 := hs.1
        simp only at h1
        omega
      have HW : Hid (w.heap.size < wr.heap.size) := HRr.out.lt
      have CT := M.hl (toTape_any wr a' n' c' ss x y z hs hn1)
      clear hs hfk
      go_wp2_with fail
      refine CT.out.mono ?_
      rintro e w2 ⟨q, rfl, hO, hq, hb2⟩
      have hblk := hb2.block w.heap.size HRr.out.lt
      have hR2 := HRr.out.of_block hblk
      have HR2 := M.hl hR2
      have HP2 := M.hl (HPr.out.of_block hblk)
      have HO2 := M.hl (HOr.out.below hb2)
      have HO := M.hl hO
      have HNE : Hid (∀ p ∈ ps, ∀ g, p.2.ownBlock = some g → (Value.slice (some ⟨q, 0, none⟩) n' n').ownBlock ≠ some g) := fun p hp g hg e => by
        have h1 := (HOr.out.1 p hp).2 g hg
        have h2 := Option.some.inj e
        simp at h2
        omega
      have HB2 : Hid (Below w.heap.size w w2) := HBr.out.trans (hb2.mono HBr.out.size)
      obtain ⟨v0, g0⟩ := hR2.cell (i := k * 4) (by omega)
      obtain ⟨v1, g1⟩ := hR2.cell (i := k * 4 + 1) (by omega)
      obtain ⟨v2, g2⟩ := hR2.cell (i := k * 4 + 2) (by omega)
      obtain ⟨v3, g3⟩ := hR2.cell (i := k * 4 + 3) (by omega)
      have e0 := hR2.free (k * 4)
      have e1 := hR2.free (k * 4 + 1)
      have e2 := hR2.free (k * 4 + 2)
      have e3 := hR2.free (k * 4 + 3)
      clear hb2 hblk hR2 c0 c1 c2 c3 hO
      go_wp2
      go_roundw
      case rel =>
        refine ⟨k + 1, ps ++ [(⟨x, ss, y, z⟩, .slice (some ⟨q, 0, none⟩) n' n')], by go_num, by omega, (((HR2.out.setCell _ _).setCell _ _).setCell _ _).setCell _ _, ?_, M.hl (HP2.out.push HR2.out HPL.out (by omega)), ?_, (((HB2.out.setCell (Nat.le_refl _) _).setCell (Nat.le_refl _) _).setCell (Nat.le_refl _) _).setCell (Nat.le_refl _) _⟩
        · show _ = _
          rw [List.map_append, HM.out, M.take_snocG HFK.out]
          rfl
        · refine M.ownAll.snoc ((((HO2.out.set (by omega) _ _).set (by omega) _ _).set (by omega) _ _).set (by omega) _ _) ?_ HNE.out
          have := HW.out
          exact ((((HO.out.lower (by omega)).setLow (by omega) _ _).setLow (by omega) _ _).setLow (by omega) _ _).setLow (by omega) _ _
      case measure => simp [intOf]; omega
    · have hlk : k = len := by omega
      subst hlk
      have HM2 : Hid (ps.map Prod.fst = ts) := by have := HM.out; rwa [List.take_of_length_le (by have := HN.out; omega)] at this
      go_wp2
      go_ret
      refine ⟨w.heap.size, ps, rfl, HM2.out, ⟨?_, fun g hg => ?_, fun p hp => ⟨(HOr.out.1 p hp).1.lower (by omega), (HOr.out.1 p hp).2⟩, HOr.out.2⟩, HBr.out⟩
      · have := M.row_of (cap := k) (lo := w.heap.size) HPr.out HRr.out (Nat.le_refl _) (by rw [HPL.out]; exact Nat.le_refl _) (by unfold maxLen; omega)
        rwa [HPL.out] at this ⊢
      · have := Option.some.inj hg
        rw [← this]
        exact HRr.out.lt
end Go.Proofs.Ytappficbjjkmiaa
