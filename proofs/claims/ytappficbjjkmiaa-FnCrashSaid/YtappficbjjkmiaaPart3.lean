/-
  A file as data, its cells, and rows of files in memory.
-/
import Derived.WalkKit
import Derived.WalkSpells
import Derived.WalkLawsBesides
import Derived.OpenShut
import Derived.Deep.Slices
import Derived.ChangeSame
namespace Go.Proofs.Ytappficbjjkmiaa.M
open Go.RowKit

structure FileD where
  path : ByteArray
  dir : Bool
  mode : Int
  time : Int
  data : ByteArray

def fval (f : FileD) : Value := .agg #[.string f.path, .bool f.dir, .int .i64 f.mode, .int .i64 f.time, .string f.data]
def fcells (f : FileD) : List Value := [.string f.path, .bool f.dir, .int .i64 f.mode, .int .i64 f.time, .string f.data]
/-- A file whose numbers are of int64 and whose texts are of a size that can be. -/
def fok (f : FileD) : Prop := f.path.size ≤ maxLen ∧ f.data.size ≤ maxLen ∧ -9223372036854775808 ≤ f.mode ∧ f.mode ≤ 9223372036854775807 ∧ -9223372036854775808 ≤ f.time ∧ f.time ≤ 9223372036854775807

/-- The files lie in a row from a place on. -/
def FilesAt (w : World) (b off : Nat) (fs : List FileD) : Prop :=
  ∀ i (h : i < fs.length), w.cell? ⟨b, off + i * 5, none⟩ = some (.string fs[i].path) ∧ w.cell? ⟨b, off + i * 5 + 1, none⟩ = some (.bool fs[i].dir) ∧ w.cell? ⟨b, off + i * 5 + 2, none⟩ = some (.int .i64 fs[i].mode) ∧
    w.cell? ⟨b, off + i * 5 + 3, none⟩ = some (.int .i64 fs[i].time) ∧ w.cell? ⟨b, off + i * 5 + 4, none⟩ = some (.string fs[i].data)
/-- A slice of files. -/
def Files (w : World) (a : Option Addr) (len cap : Nat) (fs : List FileD) : Prop :=
  len = fs.length ∧ len ≤ cap ∧ cap ≤ maxLen ∧ (0 < len → ∃ b off, a = some ⟨b, off, none⟩ ∧ FilesAt w b off fs)
theorem Files.below {w w' : World} {a : Option Addr} {len cap : Nat} {fs : List FileD} (h : Files w a len cap fs) (hb : Below w.heap.size w w') : Files w' a len cap fs := by
  obtain ⟨h1, h2, h3, h4⟩ := h
  refine ⟨h1, h2, h3, fun hl => ?_⟩
  obtain ⟨b, off, rfl, hf⟩ := h4 hl
  refine ⟨b, off, rfl, fun i hi => ?_⟩
  obtain ⟨c0, c1, c2, c3, c4⟩ := hf i hi
  have hlt : b < w.heap.size := World.block_lt_of_cell? w _ c0
  refine ⟨?_, ?_, ?_, ?_, ?_⟩
  · rw [hb.cell (p := ⟨b, off + i * 5, none⟩) hlt]; exact c0
  · rw [hb.cell (p := ⟨b, off + i * 5 + 1, none⟩) hlt]; exact c1
  · rw [hb.cell (p := ⟨b, off + i * 5 + 2, none⟩) hlt]; exact c2
  · rw [hb.cell (p := ⟨b, off + i * 5 + 3, none⟩) hlt]; exact c3
  · rw [hb.cell (p := ⟨b, off + i * 5 + 4, none⟩) hlt]; exact c4

def feq (a b : FileD) : Bool := a.path.toList == b.path.toList && a.dir == b.dir && a.mode == b.mode && a.time == b.time && a.data.toList == b.data.toList
theorem bytes_eq {a b : ByteArray} (h : a.toList = b.toList) : a = b := by
  rw [ByteArray.toList_eq, ByteArray.toList_eq] at h
  apply ByteArray.ext
  exact Array.toList_inj.1 h
theorem feq_iff {a b : FileD} : feq a b = true ↔ a = b := by
  unfold feq
  constructor
  · intro h
    simp only [Bool.and_eq_true, beq_iff_eq] at h
    obtain ⟨⟨⟨⟨h1, h2⟩, h3⟩, h4⟩, h5⟩ := h
    cases a; cases b
    simp only at h1 h2 h3 h4 h5
    rw [bytes_eq h1, bytes_eq h5, h2, h3, h4]
  · rintro rfl; simp

/-- A block of N cells that may be written. -/
def Row (w : World) (H : Nat) (T : TypeId) (N : Nat) : Prop := ∃ cur, w.heap[H]? = some (.cells cur T (0, 0)) ∧ cur.size = N
theorem Row.cell {w : World} {H : Nat} {T : TypeId} {N i : Nat} (h : Row w H T N) (hi : i < N) : ∃ v, w.cell? ⟨H, i, none⟩ = some v := by
  obtain ⟨cur, h1, rfl⟩ := h
  exact ⟨cur[i], by simp [World.cell?, h1, hi]⟩
theorem Row.free {w : World} {H : Nat} {T : TypeId} {N : Nat} (h : Row w H T N) (i : Nat) : w.frozen? ⟨H, i, none⟩ = false := by
  obtain ⟨cur, h1, rfl⟩ := h
  simp [World.frozen?, h1]
theorem Row.lt {w : World} {H : Nat} {T : TypeId} {N : Nat} (h : Row w H T N) : H < w.heap.size := by
  obtain ⟨cur, h1, _⟩ := h
  exact (Array.getElem?_eq_some_iff.1 h1).1
theorem Row.of_block {w w' : World} {H : Nat} {T : TypeId} {N : Nat} (h : Row w H T N) (hb : w'.heap[H]? = w.heap[H]?) : Row w' H T N := by
  obtain ⟨cur, h1, h2⟩ := h
  exact ⟨cur, hb.trans h1, h2⟩
theorem Row.setCell {w : World} {H : Nat} {T : TypeId} {N : Nat} (h : Row w H T N) (i : Nat) (v : Value) : Row (w.setCell ⟨H, i, none⟩ v) H T N := by
  obtain ⟨cur, h1, h2⟩ := h
  refine ⟨cur.setIfInBounds i v, ?_, by simpa using h2⟩
  simp only [World.setCell, Array.getElem?_modify, h1]
  simp
theorem Row.set5 {w : World} {H : Nat} {T : TypeId} {N : Nat} (h : Row w H T N) (o : Nat) (v0 v1 v2 v3 v4 : Value) :
    Row (((((w.setCell ⟨H, o, none⟩ v0).setCell ⟨H, o + 1, none⟩ v1).setCell ⟨H, o + 2, none⟩ v2).setCell ⟨H, o + 3, none⟩ v3).setCell ⟨H, o + 4, none⟩ v4) H T N :=
  ((((h.setCell _ _).setCell _ _).setCell _ _).setCell _ _).setCell _ _

theorem take_snoc_get {fs : List FileD} {k : Nat} {f : FileD} (h : fs[k]? = some f) : fs.take (k + 1) = fs.take k ++ [f] := by
  obtain ⟨hk, hf⟩ := List.getElem?_eq_some_iff.1 h
  rw [List.take_succ_eq_append_getElem hk, hf]
/-- One file more at the row's end. -/
theorem FilesAt.push {w : World} {H off k : Nat} {T : TypeId} {N : Nat} {gs : List FileD} {f : FileD} (h : FilesAt w H off gs) (hr : Row w H T N) (hg : gs.length = k) (hN : off + k * 5 + 4 < N) :
    FilesAt (((((w.setCell ⟨H, off + k * 5, none⟩ (.string f.path)).setCell ⟨H, off + k * 5 + 1, none⟩ (.bool f.dir)).setCell ⟨H, off + k * 5 + 2, none⟩ (.int .i64 f.mode)).setCell ⟨H, off + k * 5 + 3, none⟩ (.int .i64 f.time)).setCell ⟨H, off + k * 5 + 4, none⟩ (.string f.data)) H off (gs ++ [f]) := by
  have other : ∀ (W : World) (o o' : Nat) (v : Value), o ≠ o' → (W.setCell ⟨H, o, none⟩ v).cell? ⟨H, o', none⟩ = W.cell? ⟨H, o', none⟩ := fun W o o' v hne => World.cell?_setCell_other _ _ _ _ (by intro e; simp only [Addr.mk.injEq] at e; omega)
  have same : ∀ (W : World) (o : Nat) (v : Value), Row W H T N → o < N → (W.setCell ⟨H, o, none⟩ v).cell? ⟨H, o, none⟩ = some v := fun W o v hW ho => by
    obtain ⟨u, hu⟩ := hW.cell ho
    exact World.cell?_setCell_same _ _ _ hu
  intro i hi
  rw [List.length_append, List.length_singleton, hg] at hi
  by_cases e : i = k
  · subst e
    have hf : (gs ++ [f])[i]'(by simp; omega) = f := by rw [List.getElem_append_right (by omega)]; simp
    rw [hf]
    refine ⟨?_, ?_, ?_, ?_, ?_⟩
    · rw [other _ _ _ _ (by omega), other _ _ _ _ (by omega), other _ _ _ _ (by omega), other _ _ _ _ (by omega)]
      exact same _ _ _ hr (by omega)
    · rw [other _ _ _ _ (by omega), other _ _ _ _ (by omega), other _ _ _ _ (by omega)]
      exact same _ _ _ (hr.setCell _ _) (by omega)
    · rw [other _ _ _ _ (by omega), other _ _ _ _ (by omega)]
      exact same _ _ _ ((hr.setCell _ _).setCell _ _) (by omega)
    · rw [other _ _ _ _ (by omega)]
      exact same _ _ _ (((hr.setCell _ _).setCell _ _).setCell _ _) (by omega)
    · exact same _ _ _ ((((hr.setCell _ _).setCell _ _).setCell _ _).setCell _ _) (by omega)
  · have hik : i < gs.length := by omega
    have hf : (gs ++ [f])[i]'(by simp; omega) = gs[i] := List.getElem_append_left hik
    rw [hf]
    obtain ⟨c0, c1, c2, c3, c4⟩ := h i hik
    refine ⟨?_, ?_, ?_, ?_, ?_⟩
    · rw [other _ _ _ _ (by omega), other _ _ _ _ (by omega), other _ _ _ _ (by omega), other _ _ _ _ (by omega), other _ _ _ _ (by omega)]; exact c0
    · rw [other _ _ _ _ (by omega), other _ _ _ _ (by omega), other _ _ _ _ (by omega), other _ _ _ _ (by omega), other _ _ _ _ (by omega)]; exact c1
    · rw [other _ _ _ _ (by omega), other _ _ _ _ (by omega), other _ _ _ _ (by omega), other _ _ _ _ (by omega), other _ _ _ _ (by omega)]; exact c2
    · rw [other _ _ _ _ (by omega), other _ _ _ _ (by omega), other _ _ _ _ (by omega), other _ _ _ _ (by omega), other _ _ _ _ (by omega)]; exact c3
    · rw [other _ _ _ _ (by omega), other _ _ _ _ (by omega), other _ _ _ _ (by omega), other _ _ _ _ (by omega), other _ _ _ _ (by omega)]; exact c4
theorem FilesAt.of_block {w w' : World} {H off : Nat} {fs : List FileD} (h : FilesAt w H off fs) (hb : w'.heap[H]? = w.heap[H]?) : FilesAt w' H off fs := by
  intro i hi
  obtain ⟨c0, c1, c2, c3, c4⟩ := h i hi
  have e : ∀ o, w'.cell? ⟨H, o, none⟩ = w.cell? ⟨H, o, none⟩ := fun o => World.cell?_of_block (w := w) hb
  exact ⟨(e _).trans c0, (e _).trans c1, (e _).trans c2, (e _).trans c3, (e _).trans c4⟩
end Go.Proofs.Ytappficbjjkmiaa.M

/-
  An argument that is a slice of files, opened: the files as data.
-/
namespace Go.Proofs.Ytappficbjjkmiaa
open Go.ChangeShapes Go.WideShapes Go.Deep

theorem M.wf_i64 {n : Int} (h : (Lit.int .i64 n).wf = true) : -9223372036854775808 ≤ n ∧ n ≤ 9223372036854775807 := by
  have h' : IntKind.i64.min ≤ n ∧ n ≤ 9223372036854775807 := by simpa [Lit.wf, IntKind.wrap] using h
  exact ⟨h'.1, h'.2⟩

theorem M.open_files {H : Type} {enc : TypeId × Value → H} {P : Program} {w : World} {base : Nat} {spare : Nat → Bool} {held : Bool} {t e : TypeId} {f0 f1 f2 f3 f4 : Field} {fuel : Nat} {cs : List Value} {x : DataW H × List MemPlace}
    (ht : P.underlying t = some (.slice e)) (he : P.underlying e = some (.struct #[f0, f1, f2, f3, f4])) (ce : P.cellsOf e = 5)
    (o0 : f0.offset = 0) (o1 : f1.offset = 1) (o2 : f2.offset = 2) (o3 : f3.offset = 3) (o4 : f4.offset = 4)
    (c0 : P.cellsOf f0.type = 1) (c1 : P.cellsOf f1.type = 1) (c2 : P.cellsOf f2.type = 1) (c3 : P.cellsOf f3.type = 1) (c4 : P.cellsOf f4.type = 1)
    (u0 : P.underlying f0.type = some .string) (u1 : P.underlying f1.type = some .bool) (u2 : P.underlying f2.type = some (.int .i64)) (u3 : P.underlying f3.type = some (.int .i64)) (u4 : P.underlying f4.type = some .string)
    (h : DataW.trod enc P w base spare held fuel t cs = some x) :
    ∃ (a : Option Addr) (len cap : Nat) (fs : List M.FileD), cs = [.slice a len cap] ∧ M.Files w a len cap fs ∧ ∀ f ∈ fs, M.fok f := by
  rcases open_slice ht h with ⟨h0, _⟩ | ⟨a, len, cap, m, n, D, Pl, rfl, hb, hl, hm, hmm, rfl, hx⟩
  · exact ⟨none, 0, 0, [], h0, ⟨rfl, Nat.le_refl _, Nat.zero_le _, fun h => absurd h (Nat.lt_irrefl _)⟩, fun f hf => by simp at hf⟩
  have hlm : len ≤ m := by rw [hmm]; split <;> omega
  have each : ∀ i, i < len → ∃ f : M.FileD, w.cell? (a.add (i * 5)) = some (.string f.path) ∧ w.cell? (a.add (i * 5 + 1)) = some (.bool f.dir) ∧ w.cell? (a.add (i * 5 + 2)) = some (.int .i64 f.mode) ∧
      w.cell? (a.add (i * 5 + 3)) = some (.int .i64 f.time) ∧ w.cell? (a.add (i * 5 + 4)) = some (.string f.data) ∧ M.fok f := by
    intro i hi
    obtain ⟨cs', h1, h2⟩ := hx i (by omega)
    rw [ce] at h1
    obtain ⟨_, hlen, hcell⟩ := World.cells?_some h1
    obtain ⟨xs, k, hk, hxy, _, hxl, hf⟩ := DataW.trod_struct he h2
    match xs, hxl, cs', hlen with
    | [y0, y1, y2, y3, y4], _, [v0, v1, v2, v3, v4], _ =>
      have g0 := hf 0 f0 rfl
      have g1 := hf 1 f1 rfl
      have g2 := hf 2 f2 rfl
      have g3 := hf 3 f3 rfl
      have g4 := hf 4 f4 rfl
      simp [o0, o1, o2, o3, o4, c0, c1, c2, c3, c4] at g0 g1 g2 g3 g4
      obtain ⟨p, e0, _, hp⟩ := DataW.trod_string u0 g0
      obtain ⟨d, e1, _⟩ := DataW.trod_bool u1 g1
      obtain ⟨mo, e2, _, hmo⟩ := DataW.trod_int u2 g2
      obtain ⟨ti, e3, _, hti⟩ := DataW.trod_int u3 g3
      obtain ⟨da, e4, _, hda⟩ := DataW.trod_string u4 g4
      obtain rfl := List.singleton_inj.1 e0
      obtain rfl := List.singleton_inj.1 e1
      obtain rfl := List.singleton_inj.1 e2
      obtain rfl := List.singleton_inj.1 e3
      obtain rfl := List.singleton_inj.1 e4
      have r0 := hcell 0 (by omega)
      have r1 := hcell 1 (by omega)
      have r2 := hcell 2 (by omega)
      have r3 := hcell 3 (by omega)
      have r4 := hcell 4 (by omega)
      rw [add_add] at r0 r1 r2 r3 r4
      have w2 := M.wf_i64 hmo
      have w3 := M.wf_i64 hti
      exact ⟨⟨p, d, mo, ti, da⟩, by simpa using r0, by simpa using r1, by simpa using r2, by simpa using r3, by simpa using r4, hp, hda, w2.1, w2.2, w3.1, w3.2⟩
  have hin : Inhabited M.FileD := ⟨⟨ByteArray.empty, false, 0, 0, ByteArray.empty⟩⟩
  obtain ⟨F, hF⟩ := choose_lt each
  refine ⟨some a, len, cap, (List.range len).map F, rfl, ⟨by simp, hl, hm, fun hpos => ?_⟩, fun f hf => ?_⟩
  · have hs : a.spot = none := by
      have h0 := (hF 0 hpos).1
      simp only [Nat.zero_mul, Addr.add, if_pos] at h0
      unfold World.cell? at h0
      split at h0
      · cases hq : a.spot with
        | none => rfl
        | some q => simp [hq] at h0
      · cases h0
    obtain ⟨b, off, spot⟩ := a
    simp only at hs
    subst hs
    have ad : ∀ q, (⟨b, off, none⟩ : Addr).add q = ⟨b, off + q, none⟩ := fun q => by
      unfold Addr.add
      split
      · next h => subst h; rfl
      · rfl
    refine ⟨b, off, rfl, fun i hi => ?_⟩
    have hi' : i < len := by simpa using hi
    obtain ⟨r0, r1, r2, r3, r4, _⟩ := hF i hi'
    simp only [ad] at r0 r1 r2 r3 r4
    simp only [List.getElem_map, List.getElem_range]
    exact ⟨r0, by simpa [Nat.add_assoc] using r1, by simpa [Nat.add_assoc] using r2, by simpa [Nat.add_assoc] using r3, by simpa [Nat.add_assoc] using r4⟩
  · obtain ⟨i, hi, rfl⟩ := List.mem_map.1 hf
    exact (hF i (List.mem_range.1 hi)).2.2.2.2.2
end Go.Proofs.Ytappficbjjkmiaa

/-
  Rows of texts in memory; an argument that is a slice of texts, or a delta, opened.
-/
namespace Go.Proofs.Ytappficbjjkmiaa
open Go.ChangeShapes Go.WideShapes Go.Deep Go.RowKit

theorem M.take_snocS {ss : List ByteArray} {k : Nat} {s : ByteArray} (h : ss[k]? = some s) : ss.take (k + 1) = ss.take k ++ [s] := by
  rw [List.take_add_one, h]; rfl
/-- The texts lie in a row from a place on. -/
def M.StrsAt (w : World) (b off : Nat) (ss : List ByteArray) : Prop := ∀ i (h : i < ss.length), w.cell? ⟨b, off + i, none⟩ = some (.string ss[i])
/-- A slice of texts. -/
def M.Strs (w : World) (a : Option Addr) (len cap : Nat) (ss : List ByteArray) : Prop :=
  len = ss.length ∧ len ≤ cap ∧ cap ≤ maxLen ∧ (0 < len → ∃ b off, a = some ⟨b, off, none⟩ ∧ M.StrsAt w b off ss)
theorem M.StrsAt.of_block {w w' : World} {b off : Nat} {ss : List ByteArray} (h : M.StrsAt w b off ss) (hb : w'.heap[b]? = w.heap[b]?) : M.StrsAt w' b off ss := fun i hi =>
  (World.cell?_of_block (a := ⟨b, off + i, none⟩) hb).trans (h i hi)
theorem M.Strs.below {w w' : World} {a : Option Addr} {len cap : Nat} {ss : List ByteArray} (h : M.Strs w a len cap ss) (hb : Below w.heap.size w w') : M.Strs w' a len cap ss := by
  obtain ⟨h1, h2, h3, h4⟩ := h
  refine ⟨h1, h2, h3, fun hl => ?_⟩
  obtain ⟨b, off, rfl, hf⟩ := h4 hl
  exact ⟨b, off, rfl, hf.of_block (hb.block b (World.block_lt_of_cell? w _ (hf 0 (by omega))))⟩
theorem M.Strs.nil (w : World) : M.Strs w none 0 0 [] := ⟨rfl, Nat.le_refl _, Nat.zero_le _, fun h => absurd h (Nat.lt_irrefl _)⟩
theorem M.open_strs {H : Type} {enc : TypeId × Value → H} {P : Program} {w : World} {base : Nat} {spare : Nat → Bool} {held : Bool} {t e : TypeId} {fuel : Nat} {cs : List Value} {x : DataW H × List MemPlace}
    (ht : P.underlying t = some (.slice e)) (he : P.underlying e = some .string) (ce : P.cellsOf e = 1) (h : DataW.trod enc P w base spare held fuel t cs = some x) :
    ∃ (a : Option Addr) (len cap : Nat) (ss : List ByteArray), cs = [.slice a len cap] ∧ M.Strs w a len cap ss ∧ ∀ s ∈ ss, s.size ≤ maxLen := by
  rcases open_slice ht h with ⟨h0, _⟩ | ⟨a, len, cap, m, n, D, Pl, rfl, hb, hl, hm, hmm, rfl, hx⟩
  · exact ⟨none, 0, 0, [], h0, M.Strs.nil w, fun f hf => by simp at hf⟩
  have hlm : len ≤ m := by rw [hmm]; split <;> omega
  have each : ∀ i, i < len → ∃ s : ByteArray, w.cell? (a.add i) = some (.string s) ∧ s.size ≤ maxLen := by
    intro i hi
    obtain ⟨cs', h1, h2⟩ := hx i (by omega)
    rw [ce] at h1
    obtain ⟨_, hlen, hcell⟩ := World.cells?_some h1
    match cs', hlen with
    | [v0], _ =>
      obtain ⟨p, e0, _, hp⟩ := DataW.trod_string he h2
      obtain rfl := List.singleton_inj.1 e0
      have r0 := hcell 0 (by omega)
      rw [add_add] at r0
      exact ⟨p, by simpa using r0, hp⟩
  have hin : Inhabited ByteArray := ⟨ByteArray.empty⟩
  obtain ⟨F, hF⟩ := choose_lt each
  refine ⟨some a, len, cap, (List.range len).map F, rfl, ⟨by simp, hl, hm, fun hpos => ?_⟩, fun f hf => ?_⟩
  · have hs : a.spot = none := by
      have h0 := (hF 0 hpos).1
      simp only [Addr.add, if_pos] at h0
      unfold World.cell? at h0
      split at h0
      · cases hq : a.spot with
        | none => rfl
        | some q => simp [hq] at h0
      · cases h0
    obtain ⟨b, off, spot⟩ := a
    simp only at hs
    subst hs
    have ad : ∀ q, (⟨b, off, none⟩ : Addr).add q = ⟨b, off + q, none⟩ := fun q => by
      unfold Addr.add
      split
      · next h => subst h; rfl
      · rfl
    refine ⟨b, off, rfl, fun i hi => ?_⟩
    have hi' : i < len := by simpa using hi
    obtain ⟨r0, _⟩ := hF i hi'
    simp only [ad] at r0
    simp only [List.getElem_map, List.getElem_range]
    exact r0
  · obtain ⟨i, hi, rfl⟩ := List.mem_map.1 hf
    exact (hF i (List.mem_range.1 hi)).2
/-- An argument that is a delta: a slice of texts and one of files. -/
theorem M.open_delta {H : Type} {enc : TypeId × Value → H} {P : Program} {w : World} {base : Nat} {spare : Nat → Bool} {held : Bool} {t es ef : TypeId} {g0 g1 : Field} {f0 f1 f2 f3 f4 : Field} {fuel : Nat} {cs : List Value} {x : DataW H × List MemPlace}
    (ht : P.underlying t = some (.struct #[g0, g1])) (ct : P.cellsOf t = 2) (p0 : g0.offset = 0) (p1 : g1.offset = 1) (k0 : P.cellsOf g0.type = 1) (k1 : P.cellsOf g1.type = 1)
    (hs : P.underlying g0.type = some (.slice es)) (hes : P.underlying es = some .string) (ces : P.cellsOf es = 1)
    (hf : P.underlying g1.type = some (.slice ef)) (he : P.underlying ef = some (.struct #[f0, f1, f2, f3, f4])) (ce : P.cellsOf ef = 5)
    (o0 : f0.offset = 0) (o1 : f1.offset = 1) (o2 : f2.offset = 2) (o3 : f3.offset = 3) (o4 : f4.offset = 4)
    (c0 : P.cellsOf f0.type = 1) (c1 : P.cellsOf f1.type = 1) (c2 : P.cellsOf f2.type = 1) (c3 : P.cellsOf f3.type = 1) (c4 : P.cellsOf f4.type = 1)
    (u0 : P.underlying f0.type = some .string) (u1 : P.underlying f1.type = some .bool) (u2 : P.underlying f2.type = some (.int .i64)) (u3 : P.underlying f3.type = some (.int .i64)) (u4 : P.underlying f4.type = some .string)
    (h : DataW.trod enc P w base spare held fuel t cs = some x) :
    ∃ (a : Option Addr) (n c : Nat) (ss : List ByteArray) (b : Option Addr) (m d : Nat) (fs : List M.FileD), cs = [.slice a n c, .slice b m d] ∧ M.Strs w a n c ss ∧ (∀ s ∈ ss, s.size ≤ maxLen) ∧ M.Files w b m d fs ∧ ∀ f ∈ fs, M.fok f := by
  obtain ⟨xs, n, hn, hxy, hlen, hxl, hx⟩ := DataW.trod_struct ht h
  rw [ct] at hlen
  match xs, hxl, cs, hlen with
  | [y0, y1], _, [v0, v1], _ =>
    have r0 := hx 0 g0 rfl
    have r1 := hx 1 g1 rfl
    simp [p0, p1, k0, k1] at r0 r1
    obtain ⟨a, n1, c, ss, e0, hss, hok⟩ := M.open_strs hs hes ces r0
    obtain ⟨b, m, d, fs, e1, hfs, hok2⟩ := M.open_files hf he ce o0 o1 o2 o3 o4 c0 c1 c2 c3 c4 u0 u1 u2 u3 u4 r1
    obtain rfl := List.singleton_inj.1 e0
    obtain rfl := List.singleton_inj.1 e1
    exact ⟨a, n1, c, ss, b, m, d, fs, rfl, hss, hok, hfs, hok2⟩
end Go.Proofs.Ytappficbjjkmiaa
