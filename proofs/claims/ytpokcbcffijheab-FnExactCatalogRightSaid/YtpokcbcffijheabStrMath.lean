/-
  Rows of texts in memory; an argument that is a slice of texts, or a delta, opened.
-/
import Derived.Test.YtpokcbcffijheabOpenFiles
namespace Go.Proofs.Ytpokcbcffijheab
open Go.ChangeShapes Go.WideShapes Go.Deep Go.RowKit

theorem M.take_snocS {ss : List ByteArray} {k : Nat} {s : ByteArray} (h : ss[k]? = some s) : ss.take (k + 1) = ss.take k ++ [s] := by
  rw [List.take_add_one, h]; rfl
/-- The texts lie in a row from a place on. -/
def M.StrsAt (w : World) (b off : Nat) (ss : List ByteArray) : Prop := ∀ i (h : i < ss.length), w.cell? ⟨b, off + i, none⟩ = some (.string ss[i])
/-- A slice of texts. -/
def M.Strs (w : World) (a : Option Addr) (len cap : Nat) (ss : List ByteArray) : Prop :=
  len = ss.length ∧ len ≤ cap ∧ cap ≤ maxLen ∧ (0 < len → ∃ b off, a = some ⟨b, off, none⟩ ∧ M.StrsAt w b off ss)
theorem M.StrsAt.of_block {w w' : World} {b off : Nat} {ss : List ByteArray} (h : M.StrsAt w b off ss) (hb : w'.heap[b]? = w.heap[b]?) : M.StrsAt w' b off ss := fun i hi =>
  (World.cell?_of_block (a := ⟨b, off + i, none⟩) hb).trans (h i hi)
theorem M.Strs.below {w w' : World} {a : Option Addr} {len cap : Nat} {ss : List ByteArray} (h : M.Strs w a len cap ss) (hb : Below w.heap.size w w') : M.Strs w' a len cap ss := by
  obtain ⟨h1, h2, h3, h4⟩ := h
  refine ⟨h1, h2, h3, fun hl => ?_⟩
  obtain ⟨b, off, rfl, hf⟩ := h4 hl
  exact ⟨b, off, rfl, hf.of_block (hb.block b (World.block_lt_of_cell? w _ (hf 0 (by omega))))⟩
theorem M.Strs.nil (w : World) : M.Strs w none 0 0 [] := ⟨rfl, Nat.le_refl _, Nat.zero_le _, fun h => absurd h (Nat.lt_irrefl _)⟩
theorem M.open_strs {H : Type} {enc : TypeId × Value → H} {P : Program} {w : World} {base : Nat} {spare : Nat → Bool} {held : Bool} {t e : TypeId} {fuel : Nat} {cs : List Value} {x : DataW H × List MemPlace}
    (ht : P.underlying t = some (.slice e)) (he : P.underlying e = some .string) (ce : P.cellsOf e = 1) (h : DataW.trod enc P w base spare held fuel t cs = some x) :
    ∃ (a : Option Addr) (len cap : Nat) (ss : List ByteArray), cs = [.slice a len cap] ∧ M.Strs w a len cap ss ∧ ∀ s ∈ ss, s.size ≤ maxLen := by
  rcases open_slice ht h with ⟨h0, _⟩ | ⟨a, len, cap, m, n, D, Pl, rfl, hb, hl, hm, hmm, rfl, hx⟩
  · exact ⟨none, 0, 0, [], h0, M.Strs.nil w, fun f hf => by simp at hf⟩
  have hlm : len ≤ m := by rw [hmm]; split <;> omega
  have each : ∀ i, i < len → ∃ s : ByteArray, w.cell? (a.add i) = some (.string s) ∧ s.size ≤ maxLen := by
    intro i hi
    obtain ⟨cs', h1, h2⟩ := hx i (by omega)
    rw [ce] at h1
    obtain ⟨_, hlen, hcell⟩ := World.cells?_some h1
    match cs', hlen with
    | [v0], _ =>
      obtain ⟨p, e0, _, hp⟩ := DataW.trod_string he h2
      obtain rfl := List.singleton_inj.1 e0
      have r0 := hcell 0 (by omega)
      rw [add_add] at r0
      exact ⟨p, by simpa using r0, hp⟩
  have hin : Inhabited ByteArray := ⟨ByteArray.empty⟩
  obtain ⟨F, hF⟩ := choose_lt each
  refine ⟨some a, len, cap, (List.range len).map F, rfl, ⟨by simp, hl, hm, fun hpos => ?_⟩, fun f hf => ?_⟩
  · have hs : a.spot = none := by
      have h0 := (hF 0 hpos).1
      simp only [Addr.add, if_pos] at h0
      unfold World.cell? at h0
      split at h0
      · cases hq : a.spot with
        | none => rfl
        | some q => simp [hq] at h0
      · cases h0
    obtain ⟨b, off, spot⟩ := a
    simp only at hs
    subst hs
    have ad : ∀ q, (⟨b, off, none⟩ : Addr).add q = ⟨b, off + q, none⟩ := fun q => by
      unfold Addr.add
      split
      · next h => subst h; rfl
      · rfl
    refine ⟨b, off, rfl, fun i hi => ?_⟩
    have hi' : i < len := by simpa using hi
    obtain ⟨r0, _⟩ := hF i hi'
    simp only [ad] at r0
    simp only [List.getElem_map, List.getElem_range]
    exact r0
  · obtain ⟨i, hi, rfl⟩ := List.mem_map.1 hf
    exact (hF i (List.mem_range.1 hi)).2
/-- An argument that is a delta: a slice of texts and one of files. -/
theorem M.open_delta {H : Type} {enc : TypeId × Value → H} {P : Program} {w : World} {base : Nat} {spare : Nat → Bool} {held : Bool} {t es ef : TypeId} {g0 g1 : Field} {f0 f1 f2 f3 f4 : Field} {fuel : Nat} {cs : List Value} {x : DataW H × List MemPlace}
    (ht : P.underlying t = some (.struct #[g0, g1])) (ct : P.cellsOf t = 2) (p0 : g0.offset = 0) (p1 : g1.offset = 1) (k0 : P.cellsOf g0.type = 1) (k1 : P.cellsOf g1.type = 1)
    (hs : P.underlying g0.type = some (.slice es)) (hes : P.underlying es = some .string) (ces : P.cellsOf es = 1)
    (hf : P.underlying g1.type = some (.slice ef)) (he : P.underlying ef = some (.struct #[f0, f1, f2, f3, f4])) (ce : P.cellsOf ef = 5)
    (o0 : f0.offset = 0) (o1 : f1.offset = 1) (o2 : f2.offset = 2) (o3 : f3.offset = 3) (o4 : f4.offset = 4)
    (c0 : P.cellsOf f0.type = 1) (c1 : P.cellsOf f1.type = 1) (c2 : P.cellsOf f2.type = 1) (c3 : P.cellsOf f3.type = 1) (c4 : P.cellsOf f4.type = 1)
    (u0 : P.underlying f0.type = some .string) (u1 : P.underlying f1.type = some .bool) (u2 : P.underlying f2.type = some (.int .i64)) (u3 : P.underlying f3.type = some (.int .i64)) (u4 : P.underlying f4.type = some .string)
    (h : DataW.trod enc P w base spare held fuel t cs = some x) :
    ∃ (a : Option Addr) (n c : Nat) (ss : List ByteArray) (b : Option Addr) (m d : Nat) (fs : List M.FileD), cs = [.slice a n c, .slice b m d] ∧ M.Strs w a n c ss ∧ (∀ s ∈ ss, s.size ≤ maxLen) ∧ M.Files w b m d fs ∧ ∀ f ∈ fs, M.fok f := by
  obtain ⟨xs, n, hn, hxy, hlen, hxl, hx⟩ := DataW.trod_struct ht h
  rw [ct] at hlen
  match xs, hxl, cs, hlen with
  | [y0, y1], _, [v0, v1], _ =>
    have r0 := hx 0 g0 rfl
    have r1 := hx 1 g1 rfl
    simp [p0, p1, k0, k1] at r0 r1
    obtain ⟨a, n1, c, ss, e0, hss, hok⟩ := M.open_strs hs hes ces r0
    obtain ⟨b, m, d, fs, e1, hfs, hok2⟩ := M.open_files hf he ce o0 o1 o2 o3 o4 c0 c1 c2 c3 c4 u0 u1 u2 u3 u4 r1
    obtain rfl := List.singleton_inj.1 e0
    obtain rfl := List.singleton_inj.1 e1
    exact ⟨a, n1, c, ss, b, m, d, fs, rfl, hss, hok, hfs, hok2⟩
end Go.Proofs.Ytpokcbcffijheab
