/-
  A file as data, its cells, and rows of files in memory.
-/
import Derived.WalkKit
import Derived.WalkSpells
import Derived.WalkLawsBesides
import Derived.OpenShut
namespace Go.Proofs.Ytpokcbcffijheab.M
open Go.RowKit

structure FileD where
  path : ByteArray
  dir : Bool
  mode : Int
  time : Int
  data : ByteArray

def fval (f : FileD) : Value := .agg #[.string f.path, .bool f.dir, .int .i64 f.mode, .int .i64 f.time, .string f.data]
def fcells (f : FileD) : List Value := [.string f.path, .bool f.dir, .int .i64 f.mode, .int .i64 f.time, .string f.data]
/-- A file whose numbers are of int64 and whose texts are of a size that can be. -/
def fok (f : FileD) : Prop := f.path.size ≤ maxLen ∧ f.data.size ≤ maxLen ∧ -9223372036854775808 ≤ f.mode ∧ f.mode ≤ 9223372036854775807 ∧ -9223372036854775808 ≤ f.time ∧ f.time ≤ 9223372036854775807

/-- The files lie in a row from a place on. -/
def FilesAt (w : World) (b off : Nat) (fs : List FileD) : Prop :=
  ∀ i (h : i < fs.length), w.cell? ⟨b, off + i * 5, none⟩ = some (.string fs[i].path) ∧ w.cell? ⟨b, off + i * 5 + 1, none⟩ = some (.bool fs[i].dir) ∧ w.cell? ⟨b, off + i * 5 + 2, none⟩ = some (.int .i64 fs[i].mode) ∧
    w.cell? ⟨b, off + i * 5 + 3, none⟩ = some (.int .i64 fs[i].time) ∧ w.cell? ⟨b, off + i * 5 + 4, none⟩ = some (.string fs[i].data)
/-- A slice of files. -/
def Files (w : World) (a : Option Addr) (len cap : Nat) (fs : List FileD) : Prop :=
  len = fs.length ∧ len ≤ cap ∧ cap ≤ maxLen ∧ (0 < len → ∃ b off, a = some ⟨b, off, none⟩ ∧ FilesAt w b off fs)
theorem Files.below {w w' : World} {a : Option Addr} {len cap : Nat} {fs : List FileD} (h : Files w a len cap fs) (hb : Below w.heap.size w w') : Files w' a len cap fs := by
  obtain ⟨h1, h2, h3, h4⟩ := h
  refine ⟨h1, h2, h3, fun hl => ?_⟩
  obtain ⟨b, off, rfl, hf⟩ := h4 hl
  refine ⟨b, off, rfl, fun i hi => ?_⟩
  obtain ⟨c0, c1, c2, c3, c4⟩ := hf i hi
  have hlt : b < w.heap.size := World.block_lt_of_cell? w _ c0
  refine ⟨?_, ?_, ?_, ?_, ?_⟩
  · rw [hb.cell (p := ⟨b, off + i * 5, none⟩) hlt]; exact c0
  · rw [hb.cell (p := ⟨b, off + i * 5 + 1, none⟩) hlt]; exact c1
  · rw [hb.cell (p := ⟨b, off + i * 5 + 2, none⟩) hlt]; exact c2
  · rw [hb.cell (p := ⟨b, off + i * 5 + 3, none⟩) hlt]; exact c3
  · rw [hb.cell (p := ⟨b, off + i * 5 + 4, none⟩) hlt]; exact c4

def feq (a b : FileD) : Bool := a.path.toList == b.path.toList && a.dir == b.dir && a.mode == b.mode && a.time == b.time && a.data.toList == b.data.toList
theorem bytes_eq {a b : ByteArray} (h : a.toList = b.toList) : a = b := by
  rw [ByteArray.toList_eq, ByteArray.toList_eq] at h
  apply ByteArray.ext
  exact Array.toList_inj.1 h
theorem feq_iff {a b : FileD} : feq a b = true ↔ a = b := by
  unfold feq
  constructor
  · intro h
    simp only [Bool.and_eq_true, beq_iff_eq] at h
    obtain ⟨⟨⟨⟨h1, h2⟩, h3⟩, h4⟩, h5⟩ := h
    cases a; cases b
    simp only at h1 h2 h3 h4 h5
    rw [bytes_eq h1, bytes_eq h5, h2, h3, h4]
  · rintro rfl; simp

/-- A block of N cells that may be written. -/
def Row (w : World) (H : Nat) (T : TypeId) (N : Nat) : Prop := ∃ cur, w.heap[H]? = some (.cells cur T (0, 0)) ∧ cur.size = N
theorem Row.cell {w : World} {H : Nat} {T : TypeId} {N i : Nat} (h : Row w H T N) (hi : i < N) : ∃ v, w.cell? ⟨H, i, none⟩ = some v := by
  obtain ⟨cur, h1, rfl⟩ := h
  exact ⟨cur[i], by simp [World.cell?, h1, hi]⟩
theorem Row.free {w : World} {H : Nat} {T : TypeId} {N : Nat} (h : Row w H T N) (i : Nat) : w.frozen? ⟨H, i, none⟩ = false := by
  obtain ⟨cur, h1, rfl⟩ := h
  simp [World.frozen?, h1]
theorem Row.lt {w : World} {H : Nat} {T : TypeId} {N : Nat} (h : Row w H T N) : H < w.heap.size := by
  obtain ⟨cur, h1, _⟩ := h
  exact (Array.getElem?_eq_some_iff.1 h1).1
theorem Row.of_block {w w' : World} {H : Nat} {T : TypeId} {N : Nat} (h : Row w H T N) (hb : w'.heap[H]? = w.heap[H]?) : Row w' H T N := by
  obtain ⟨cur, h1, h2⟩ := h
  exact ⟨cur, hb.trans h1, h2⟩
theorem Row.setCell {w : World} {H : Nat} {T : TypeId} {N : Nat} (h : Row w H T N) (i : Nat) (v : Value) : Row (w.setCell ⟨H, i, none⟩ v) H T N := by
  obtain ⟨cur, h1, h2⟩ := h
  refine ⟨cur.setIfInBounds i v, ?_, by simpa using h2⟩
  simp only [World.setCell, Array.getElem?_modify, h1]
  simp
theorem Row.set5 {w : World} {H : Nat} {T : TypeId} {N : Nat} (h : Row w H T N) (o : Nat) (v0 v1 v2 v3 v4 : Value) :
    Row (((((w.setCell ⟨H, o, none⟩ v0).setCell ⟨H, o + 1, none⟩ v1).setCell ⟨H, o + 2, none⟩ v2).setCell ⟨H, o + 3, none⟩ v3).setCell ⟨H, o + 4, none⟩ v4) H T N :=
  ((((h.setCell _ _).setCell _ _).setCell _ _).setCell _ _).setCell _ _

theorem take_snoc_get {fs : List FileD} {k : Nat} {f : FileD} (h : fs[k]? = some f) : fs.take (k + 1) = fs.take k ++ [f] := by
  obtain ⟨hk, hf⟩ := List.getElem?_eq_some_iff.1 h
  rw [List.take_succ_eq_append_getElem hk, hf]
/-- One file more at the row's end. -/
theorem FilesAt.push {w : World} {H off k : Nat} {T : TypeId} {N : Nat} {gs : List FileD} {f : FileD} (h : FilesAt w H off gs) (hr : Row w H T N) (hg : gs.length = k) (hN : off + k * 5 + 4 < N) :
    FilesAt (((((w.setCell ⟨H, off + k * 5, none⟩ (.string f.path)).setCell ⟨H, off + k * 5 + 1, none⟩ (.bool f.dir)).setCell ⟨H, off + k * 5 + 2, none⟩ (.int .i64 f.mode)).setCell ⟨H, off + k * 5 + 3, none⟩ (.int .i64 f.time)).setCell ⟨H, off + k * 5 + 4, none⟩ (.string f.data)) H off (gs ++ [f]) := by
  have other : ∀ (W : World) (o o' : Nat) (v : Value), o ≠ o' → (W.setCell ⟨H, o, none⟩ v).cell? ⟨H, o', none⟩ = W.cell? ⟨H, o', none⟩ := fun W o o' v hne => World.cell?_setCell_other _ _ _ _ (by intro e; simp only [Addr.mk.injEq] at e; omega)
  have same : ∀ (W : World) (o : Nat) (v : Value), Row W H T N → o < N → (W.setCell ⟨H, o, none⟩ v).cell? ⟨H, o, none⟩ = some v := fun W o v hW ho => by
    obtain ⟨u, hu⟩ := hW.cell ho
    exact World.cell?_setCell_same _ _ _ hu
  intro i hi
  rw [List.length_append, List.length_singleton, hg] at hi
  by_cases e : i = k
  · subst e
    have hf : (gs ++ [f])[i]'(by simp; omega) = f := by rw [List.getElem_append_right (by omega)]; simp
    rw [hf]
    refine ⟨?_, ?_, ?_, ?_, ?_⟩
    · rw [other _ _ _ _ (by omega), other _ _ _ _ (by omega), other _ _ _ _ (by omega), other _ _ _ _ (by omega)]
      exact same _ _ _ hr (by omega)
    · rw [other _ _ _ _ (by omega), other _ _ _ _ (by omega), other _ _ _ _ (by omega)]
      exact same _ _ _ (hr.setCell _ _) (by omega)
    · rw [other _ _ _ _ (by omega), other _ _ _ _ (by omega)]
      exact same _ _ _ ((hr.setCell _ _).setCell _ _) (by omega)
    · rw [other _ _ _ _ (by omega)]
      exact same _ _ _ (((hr.setCell _ _).setCell _ _).setCell _ _) (by omega)
    · exact same _ _ _ ((((hr.setCell _ _).setCell _ _).setCell _ _).setCell _ _) (by omega)
  · have hik : i < gs.length := by omega
    have hf : (gs ++ [f])[i]'(by simp; omega) = gs[i] := List.getElem_append_left hik
    rw [hf]
    obtain ⟨c0, c1, c2, c3, c4⟩ := h i hik
    refine ⟨?_, ?_, ?_, ?_, ?_⟩
    · rw [other _ _ _ _ (by omega), other _ _ _ _ (by omega), other _ _ _ _ (by omega), other _ _ _ _ (by omega), other _ _ _ _ (by omega)]; exact c0
    · rw [other _ _ _ _ (by omega), other _ _ _ _ (by omega), other _ _ _ _ (by omega), other _ _ _ _ (by omega), other _ _ _ _ (by omega)]; exact c1
    · rw [other _ _ _ _ (by omega), other _ _ _ _ (by omega), other _ _ _ _ (by omega), other _ _ _ _ (by omega), other _ _ _ _ (by omega)]; exact c2
    · rw [other _ _ _ _ (by omega), other _ _ _ _ (by omega), other _ _ _ _ (by omega), other _ _ _ _ (by omega), other _ _ _ _ (by omega)]; exact c3
    · rw [other _ _ _ _ (by omega), other _ _ _ _ (by omega), other _ _ _ _ (by omega), other _ _ _ _ (by omega), other _ _ _ _ (by omega)]; exact c4
theorem FilesAt.of_block {w w' : World} {H off : Nat} {fs : List FileD} (h : FilesAt w H off fs) (hb : w'.heap[H]? = w.heap[H]?) : FilesAt w' H off fs := by
  intro i hi
  obtain ⟨c0, c1, c2, c3, c4⟩ := h i hi
  have e : ∀ o, w'.cell? ⟨H, o, none⟩ = w.cell? ⟨H, o, none⟩ := fun o => World.cell?_of_block (w := w) hb
  exact ⟨(e _).trans c0, (e _).trans c1, (e _).trans c2, (e _).trans c3, (e _).trans c4⟩
end Go.Proofs.Ytpokcbcffijheab.M
