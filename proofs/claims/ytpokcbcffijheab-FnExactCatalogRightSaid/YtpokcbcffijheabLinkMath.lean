/-
  Chapter 7 as mathematics: pieces that fit, right senders and receivers; arguments that are senders, receivers, packets, opened.
-/
import Derived.Test.YtpokcbcffijheabStrMath
namespace Go.Proofs.Ytpokcbcffijheab
open Go.ChangeShapes Go.WideShapes Go.Deep Go.RowKit

theorem M.hl {p : Prop} (h : p) : Hid p := h
theorem M.sl {a w v : World} (h : Below a.heap.size a w) (h' : Below w.heap.size w v) : Below a.heap.size a v := h.trans (h'.mono h.size)

/-- At most 300 pieces of at most 64 bytes. -/
def M.fits (ss : List ByteArray) : Bool := decide (ss.length ≤ 300) && ss.all fun s => decide (s.size ≤ 64)
/-- Each of just 64 bytes. -/
def M.full (ss : List ByteArray) : Bool := ss.all fun s => decide (s.size = 64)
/-- A right sender. -/
def M.sndR (ss : List ByteArray) (x d t : Int) : Bool := decide (1 ≤ ss.length) && M.fits ss && decide (0 ≤ x ∧ x ≤ (ss.length : Int)) && decide (0 ≤ d ∧ d ≤ 2000000000) && decide (1 ≤ t ∧ t ≤ 64)
/-- A right receiver. -/
def M.rcvR (ss : List ByteArray) (x : Int) : Bool := M.fits ss && (if x = -1 then decide (0 < ss.length) && M.full ss.dropLast else decide (x = (ss.length : Int)) && M.full ss)

theorem M.fits_long {ss : List ByteArray} (h : 300 < ss.length) : M.fits ss = false := by
  unfold M.fits; rw [decide_eq_false (by omega), Bool.false_and]
theorem M.fits_bad {ss : List ByteArray} {k : Nat} {s : ByteArray} (h : ss[k]? = some s) (hs : 64 < s.size) : M.fits ss = false := by
  unfold M.fits
  rw [Bool.and_eq_false_iff]
  right
  rw [List.all_eq_false]
  exact ⟨s, List.mem_of_getElem? h, by simp; omega⟩
theorem M.fits_ok {ss : List ByteArray} (h : ss.length ≤ 300) (ha : ∀ s ∈ ss, s.size ≤ 64) : M.fits ss = true := by
  unfold M.fits
  rw [decide_eq_true h, Bool.true_and, List.all_eq_true]
  intro s hs
  exact decide_eq_true (ha s hs)
theorem M.fits_iff {ss : List ByteArray} : M.fits ss = true ↔ ss.length ≤ 300 ∧ ∀ s ∈ ss, s.size ≤ 64 := by
  unfold M.fits; simp
theorem M.full_bad {ss : List ByteArray} {k : Nat} {s : ByteArray} (h : ss[k]? = some s) (hs : s.size ≠ 64) : M.full ss = false := by
  unfold M.full
  rw [List.all_eq_false]
  exact ⟨s, List.mem_of_getElem? h, by simpa using hs⟩
theorem M.full_iff {ss : List ByteArray} : M.full ss = true ↔ ∀ s ∈ ss, s.size = 64 := by
  unfold M.full; simp
theorem M.forall_snoc {p : ByteArray → Prop} {ss : List ByteArray} {k : Nat} {s : ByteArray} (h : ∀ t ∈ ss.take k, p t) (hk : ss[k]? = some s) (hs : p s) : ∀ t ∈ ss.take (k + 1), p t := by
  rw [M.take_snocS hk]
  intro t ht
  rcases List.mem_append.1 ht with h' | h'
  · exact h t h'
  · obtain rfl := List.mem_singleton.1 h'; exact hs
theorem M.Strs.pre {w : World} {a : Option Addr} {len cap : Nat} {ss : List ByteArray} (h : M.Strs w a len cap ss) (k : Nat) (hk : k ≤ len) : M.Strs w a k cap (ss.take k) := by
  obtain ⟨h1, h2, h3, h4⟩ := h
  refine ⟨by rw [List.length_take]; omega, by omega, h3, fun hl => ?_⟩
  obtain ⟨b, off, rfl, hf⟩ := h4 (by omega)
  refine ⟨b, off, rfl, fun i hi => ?_⟩
  rw [List.length_take] at hi
  rw [List.getElem_take]
  exact hf i (by omega)

/-- What the specification's loop asks of each piece that a receiver has. -/
def M.okAt (n : Nat) (x : Int) (i : Nat) (s : ByteArray) : Prop := s.size ≤ 64 ∧ (s.size < 64 → ¬ i < n - 1 ∧ x = -1)
theorem M.rcvR_iff {ss : List ByteArray} {x : Int} : M.rcvR ss x = true ↔ ss.length ≤ 300 ∧ (x = (ss.length : Int) ∨ x = -1 ∧ ss.length ≠ 0) ∧ ∀ i s, ss[i]? = some s → M.okAt ss.length x i s := by
  unfold M.rcvR
  rw [Bool.and_eq_true, M.fits_iff]
  by_cases hx : x = -1
  · subst hx
    rw [if_pos rfl, Bool.and_eq_true, M.full_iff, decide_eq_true_eq]
    constructor
    · rintro ⟨⟨h1, h2⟩, h3, h4⟩
      refine ⟨h1, .inr ⟨rfl, by omega⟩, fun i s hi => ⟨h2 s (List.mem_of_getElem? hi), fun hs => ⟨fun hl => ?_, rfl⟩⟩⟩
      have : s ∈ ss.dropLast := by
        rw [List.dropLast_eq_take]
        apply List.mem_of_getElem? (i := i)
        rw [List.getElem?_take_of_lt hl]
        exact hi
      have := h4 s this
      omega
    · rintro ⟨h1, h2, h3⟩
      have hn : ss.length ≠ 0 := by
        rcases h2 with h | h
        · omega
        · exact h.2
      refine ⟨⟨h1, fun s hs => ?_⟩, by omega, fun s hs => ?_⟩
      · obtain ⟨i, hi⟩ := List.getElem?_of_mem hs
        exact (h3 i s hi).1
      · rw [List.dropLast_eq_take] at hs
        obtain ⟨i, hi⟩ := List.getElem?_of_mem hs
        rw [List.getElem?_take] at hi
        split at hi
        · next hl =>
          have := h3 i s hi
          have h5 := this.1
          by_cases h6 : s.size < 64
          · exact absurd hl (this.2 h6).1
          · omega
        · cases hi
  · rw [if_neg hx, Bool.and_eq_true, M.full_iff, decide_eq_true_eq]
    constructor
    · rintro ⟨⟨h1, h2⟩, h3, h4⟩
      refine ⟨h1, .inl h3, fun i s hi => ⟨h2 s (List.mem_of_getElem? hi), fun hs => ?_⟩⟩
      have := h4 s (List.mem_of_getElem? hi)
      omega
    · rintro ⟨h1, h2, h3⟩
      have he : ∀ s ∈ ss, s.size = 64 := fun s hs => by
        obtain ⟨i, hi⟩ := List.getElem?_of_mem hs
        have := h3 i s hi
        have h5 := this.1
        by_cases h6 : s.size < 64
        · exact absurd (this.2 h6).2 hx
        · omega
      refine ⟨⟨h1, fun s hs => by have := he s hs; omega⟩, ?_, he⟩
      rcases h2 with h | h
      · exact h
      · exact absurd h.1 hx

/-- An argument that is a receiver: a slice of texts and a number. -/
theorem M.open_recv {H : Type} {enc : TypeId × Value → H} {P : Program} {w : World} {base : Nat} {spare : Nat → Bool} {held : Bool} {t es : TypeId} {g0 g1 : Field} {fuel : Nat} {cs : List Value} {x : DataW H × List MemPlace}
    (ht : P.underlying t = some (.struct #[g0, g1])) (ct : P.cellsOf t = 2) (p0 : g0.offset = 0) (p1 : g1.offset = 1) (k0 : P.cellsOf g0.type = 1) (k1 : P.cellsOf g1.type = 1)
    (hs : P.underlying g0.type = some (.slice es)) (hes : P.underlying es = some .string) (ces : P.cellsOf es = 1) (hi : P.underlying g1.type = some (.int .i64))
    (h : DataW.trod enc P w base spare held fuel t cs = some x) :
    ∃ (a : Option Addr) (n c : Nat) (ss : List ByteArray) (x : Int), cs = [.slice a n c, .int .i64 x] ∧ M.Strs w a n c ss ∧ (∀ s ∈ ss, s.size ≤ maxLen) ∧ -9223372036854775808 ≤ x ∧ x ≤ 9223372036854775807 := by
  obtain ⟨xs, n, hn, hxy, hlen, hxl, hx⟩ := DataW.trod_struct ht h
  rw [ct] at hlen
  match xs, hxl, cs, hlen with
  | [y0, y1], _, [v0, v1], _ =>
    have r0 := hx 0 g0 rfl
    have r1 := hx 1 g1 rfl
    simp [p0, p1, k0, k1] at r0 r1
    obtain ⟨a, n1, c, ss, e0, hss, hok⟩ := M.open_strs hs hes ces r0
    obtain ⟨x1, e1, _, hx1⟩ := DataW.trod_int hi r1
    obtain rfl := List.singleton_inj.1 e0
    obtain rfl := List.singleton_inj.1 e1
    have w1 := M.wf_i64 hx1
    exact ⟨a, n1, c, ss, x1, rfl, hss, hok, w1.1, w1.2⟩
/-- An argument that is a sender: a slice of texts and three numbers. -/
theorem M.open_send {H : Type} {enc : TypeId × Value → H} {P : Program} {w : World} {base : Nat} {spare : Nat → Bool} {held : Bool} {t es : TypeId} {g0 g1 g2 g3 : Field} {fuel : Nat} {cs : List Value} {x : DataW H × List MemPlace}
    (ht : P.underlying t = some (.struct #[g0, g1, g2, g3])) (ct : P.cellsOf t = 4) (p0 : g0.offset = 0) (p1 : g1.offset = 1) (p2 : g2.offset = 2) (p3 : g3.offset = 3) (k0 : P.cellsOf g0.type = 1) (k1 : P.cellsOf g1.type = 1) (k2 : P.cellsOf g2.type = 1) (k3 : P.cellsOf g3.type = 1)
    (hs : P.underlying g0.type = some (.slice es)) (hes : P.underlying es = some .string) (ces : P.cellsOf es = 1) (h1 : P.underlying g1.type = some (.int .i64)) (h2 : P.underlying g2.type = some (.int .i64)) (h3 : P.underlying g3.type = some (.int .i64))
    (h : DataW.trod enc P w base spare held fuel t cs = some x) :
    ∃ (a : Option Addr) (n c : Nat) (ss : List ByteArray) (x d t : Int), cs = [.slice a n c, .int .i64 x, .int .i64 d, .int .i64 t] ∧ M.Strs w a n c ss ∧ (∀ s ∈ ss, s.size ≤ maxLen) ∧ (-9223372036854775808 ≤ x ∧ x ≤ 9223372036854775807) ∧ (-9223372036854775808 ≤ d ∧ d ≤ 9223372036854775807) ∧ (-9223372036854775808 ≤ t ∧ t ≤ 9223372036854775807) := by
  obtain ⟨xs, n, hn, hxy, hlen, hxl, hx⟩ := DataW.trod_struct ht h
  rw [ct] at hlen
  match xs, hxl, cs, hlen with
  | [y0, y1, y2, y3], _, [v0, v1, v2, v3], _ =>
    have r0 := hx 0 g0 rfl
    have r1 := hx 1 g1 rfl
    have r2 := hx 2 g2 rfl
    have r3 := hx 3 g3 rfl
    simp [p0, p1, p2, p3, k0, k1, k2, k3] at r0 r1 r2 r3
    obtain ⟨a, n1, c, ss, e0, hss, hok⟩ := M.open_strs hs hes ces r0
    obtain ⟨x1, e1, _, hx1⟩ := DataW.trod_int h1 r1
    obtain ⟨x2, e2, _, hx2⟩ := DataW.trod_int h2 r2
    obtain ⟨x3, e3, _, hx3⟩ := DataW.trod_int h3 r3
    obtain rfl := List.singleton_inj.1 e0
    obtain rfl := List.singleton_inj.1 e1
    obtain rfl := List.singleton_inj.1 e2
    obtain rfl := List.singleton_inj.1 e3
    exact ⟨a, n1, c, ss, x1, x2, x3, rfl, hss, hok, M.wf_i64 hx1, M.wf_i64 hx2, M.wf_i64 hx3⟩
/-- An argument that is a packet: a number, a truth, a text, a number. -/
theorem M.open_pack {H : Type} {enc : TypeId × Value → H} {P : Program} {w : World} {base : Nat} {spare : Nat → Bool} {held : Bool} {t : TypeId} {g0 g1 g2 g3 : Field} {fuel : Nat} {cs : List Value} {x : DataW H × List MemPlace}
    (ht : P.underlying t = some (.struct #[g0, g1, g2, g3])) (ct : P.cellsOf t = 4) (p0 : g0.offset = 0) (p1 : g1.offset = 1) (p2 : g2.offset = 2) (p3 : g3.offset = 3) (k0 : P.cellsOf g0.type = 1) (k1 : P.cellsOf g1.type = 1) (k2 : P.cellsOf g2.type = 1) (k3 : P.cellsOf g3.type = 1)
    (h0 : P.underlying g0.type = some (.int .i64)) (h1 : P.underlying g1.type = some .bool) (h2 : P.underlying g2.type = some .string) (h3 : P.underlying g3.type = some (.int .i64))
    (h : DataW.trod enc P w base spare held fuel t cs = some x) :
    ∃ (q : Int) (l : Bool) (s : ByteArray) (c : Int), cs = [.int .i64 q, .bool l, .string s, .int .i64 c] ∧ (-9223372036854775808 ≤ q ∧ q ≤ 9223372036854775807) ∧ s.size ≤ maxLen ∧ (-9223372036854775808 ≤ c ∧ c ≤ 9223372036854775807) := by
  obtain ⟨xs, n, hn, hxy, hlen, hxl, hx⟩ := DataW.trod_struct ht h
  rw [ct] at hlen
  match xs, hxl, cs, hlen with
  | [y0, y1, y2, y3], _, [v0, v1, v2, v3], _ =>
    have r0 := hx 0 g0 rfl
    have r1 := hx 1 g1 rfl
    have r2 := hx 2 g2 rfl
    have r3 := hx 3 g3 rfl
    simp [p0, p1, p2, p3, k0, k1, k2, k3] at r0 r1 r2 r3
    obtain ⟨x0, e0, _, hx0⟩ := DataW.trod_int h0 r0
    obtain ⟨x1, e1, _⟩ := DataW.trod_bool h1 r1
    obtain ⟨x2, e2, _, hx2⟩ := DataW.trod_string h2 r2
    obtain ⟨x3, e3, _, hx3⟩ := DataW.trod_int h3 r3
    obtain rfl := List.singleton_inj.1 e0
    obtain rfl := List.singleton_inj.1 e1
    obtain rfl := List.singleton_inj.1 e2
    obtain rfl := List.singleton_inj.1 e3
    exact ⟨x0, x1, x2, x3, rfl, M.wf_i64 hx0, hx2, M.wf_i64 hx3⟩
end Go.Proofs.Ytpokcbcffijheab
