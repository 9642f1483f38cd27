/-
  An argument that is a slice of files, opened: the files as data.
-/
import Derived.Test.YtephjmlcbpfnaaaGreatDoorPart6
import Derived.Test.YtephjmlcbpfnaaaGreatDoorRows
import Derived.Deep.Slices
import Derived.ChangeSame
import Derived.WalkKit
import Derived.WalkSpells
import Derived.WalkLawsBesides
namespace Go.Proofs.YtephjmlcbpfnaaaGreatDoor
open Go.ChangeShapes Go.WideShapes Go.Deep

theorem M.wf_i64 {n : Int} (h : (Lit.int .i64 n).wf = true) : -9223372036854775808 ≤ n ∧ n ≤ 9223372036854775807 := by
  have h' : IntKind.i64.min ≤ n ∧ n ≤ 9223372036854775807 := by simpa [Lit.wf, IntKind.wrap] using h
  exact ⟨h'.1, h'.2⟩

theorem M.open_files {H : Type} {enc : TypeId × Value → H} {P : Program} {w : World} {base : Nat} {spare : Nat → Bool} {held : Bool} {t e : TypeId} {f0 f1 f2 f3 f4 : Field} {fuel : Nat} {cs : List Value} {x : DataW H × List MemPlace}
    (ht : P.underlying t = some (.slice e)) (he : P.underlying e = some (.struct #[f0, f1, f2, f3, f4])) (ce : P.cellsOf e = 5)
    (o0 : f0.offset = 0) (o1 : f1.offset = 1) (o2 : f2.offset = 2) (o3 : f3.offset = 3) (o4 : f4.offset = 4)
    (c0 : P.cellsOf f0.type = 1) (c1 : P.cellsOf f1.type = 1) (c2 : P.cellsOf f2.type = 1) (c3 : P.cellsOf f3.type = 1) (c4 : P.cellsOf f4.type = 1)
    (u0 : P.underlying f0.type = some .string) (u1 : P.underlying f1.type = some .bool) (u2 : P.underlying f2.type = some (.int .i64)) (u3 : P.underlying f3.type = some (.int .i64)) (u4 : P.underlying f4.type = some .string)
    (h : DataW.trod enc P w base spare held fuel t cs = some x) :
    ∃ (a : Option Addr) (len cap : Nat) (fs : List M.FileD), cs = [.slice a len cap] ∧ M.Files w a len cap fs ∧ ∀ f ∈ fs, M.fok f := by
  rcases open_slice ht h with ⟨h0, _⟩ | ⟨a, len, cap, m, n, D, Pl, rfl, hb, hl, hm, hmm, rfl, hx⟩
  · exact ⟨none, 0, 0, [], h0, ⟨rfl, Nat.le_refl _, Nat.zero_le _, fun h => absurd h (Nat.lt_irrefl _)⟩, fun f hf => by simp at hf⟩
  have hlm : len ≤ m := by rw [hmm]; split <;> omega
  have each : ∀ i, i < len → ∃ f : M.FileD, w.cell? (a.add (i * 5)) = some (.string f.path) ∧ w.cell? (a.add (i * 5 + 1)) = some (.bool f.dir) ∧ w.cell? (a.add (i * 5 + 2)) = some (.int .i64 f.mode) ∧
      w.cell? (a.add (i * 5 + 3)) = some (.int .i64 f.time) ∧ w.cell? (a.add (i * 5 + 4)) = some (.string f.data) ∧ M.fok f := by
    intro i hi
    obtain ⟨cs', h1, h2⟩ := hx i (by omega)
    rw [ce] at h1
    obtain ⟨_, hlen, hcell⟩ := World.cells?_some h1
    obtain ⟨xs, k, hk, hxy, _, hxl, hf⟩ := DataW.trod_struct he h2
    match xs, hxl, cs', hlen with
    | [y0, y1, y2, y3, y4], _, [v0, v1, v2, v3, v4], _ =>
      have g0 := hf 0 f0 rfl
      have g1 := hf 1 f1 rfl
      have g2 := hf 2 f2 rfl
      have g3 := hf 3 f3 rfl
      have g4 := hf 4 f4 rfl
      simp [o0, o1, o2, o3, o4, c0, c1, c2, c3, c4] at g0 g1 g2 g3 g4
      obtain ⟨p, e0, _, hp⟩ := DataW.trod_string u0 g0
      obtain ⟨d, e1, _⟩ := DataW.trod_bool u1 g1
      obtain ⟨mo, e2, _, hmo⟩ := DataW.trod_int u2 g2
      obtain ⟨ti, e3, _, hti⟩ := DataW.trod_int u3 g3
      obtain ⟨da, e4, _, hda⟩ := DataW.trod_string u4 g4
      obtain rfl := List.singleton_inj.1 e0
      obtain rfl := List.singleton_inj.1 e1
      obtain rfl := List.singleton_inj.1 e2
      obtain rfl := List.singleton_inj.1 e3
      obtain rfl := List.singleton_inj.1 e4
      have r0 := hcell 0 (by omega)
      have r1 := hcell 1 (by omega)
      have r2 := hcell 2 (by omega)
      have r3 := hcell 3 (by omega)
      have r4 := hcell 4 (by omega)
      rw [add_add] at r0 r1 r2 r3 r4
      have w2 := M.wf_i64 hmo
      have w3 := M.wf_i64 hti
      exact ⟨⟨p, d, mo, ti, da⟩, by simpa using r0, by simpa using r1, by simpa using r2, by simpa using r3, by simpa using r4, hp, hda, w2.1, w2.2, w3.1, w3.2⟩
  have hin : Inhabited M.FileD := ⟨⟨ByteArray.empty, false, 0, 0, ByteArray.empty⟩⟩
  obtain ⟨F, hF⟩ := choose_lt each
  refine ⟨some a, len, cap, (List.range len).map F, rfl, ⟨by simp, hl, hm, fun hpos => ?_⟩, fun f hf => ?_⟩
  · have hs : a.spot = none := by
      have h0 := (hF 0 hpos).1
      simp only [Nat.zero_mul, Addr.add, if_pos] at h0
      unfold World.cell? at h0
      split at h0
      · cases hq : a.spot with
        | none => rfl
        | some q => simp [hq] at h0
      · cases h0
    obtain ⟨b, off, spot⟩ := a
    simp only at hs
    subst hs
    have ad : ∀ q, (⟨b, off, none⟩ : Addr).add q = ⟨b, off + q, none⟩ := fun q => by
      unfold Addr.add
      split
      · next h => subst h; rfl
      · rfl
    refine ⟨b, off, rfl, fun i hi => ?_⟩
    have hi' : i < len := by simpa using hi
    obtain ⟨r0, r1, r2, r3, r4, _⟩ := hF i hi'
    simp only [ad] at r0 r1 r2 r3 r4
    simp only [List.getElem_map, List.getElem_range]
    exact ⟨r0, by simpa [Nat.add_assoc] using r1, by simpa [Nat.add_assoc] using r2, by simpa [Nat.add_assoc] using r3, by simpa [Nat.add_assoc] using r4⟩
  · obtain ⟨i, hi, rfl⟩ := List.mem_map.1 hf
    exact (hF i (List.mem_range.1 hi)).2.2.2.2.2
end Go.Proofs.YtephjmlcbpfnaaaGreatDoor

/-
  Rows of files that a call owns.
-/
namespace Go.Proofs.YtephjmlcbpfnaaaGreatDoor
open Go.RowKit

def M.cellsF (gs : List M.FileD) : List Value := gs.flatMap M.fcells
theorem M.cellsF_snoc (gs : List M.FileD) (f : M.FileD) : M.cellsF gs ++ M.fcells f = M.cellsF (gs ++ [f]) := by simp [M.cellsF]
theorem M.cellsF_len (gs : List M.FileD) : (M.cellsF gs).length = gs.length * 5 := by
  induction gs with
  | nil => rfl
  | cons f gs ih => simp only [M.cellsF, List.flatMap_cons, List.length_append, List.length_cons] at ih ⊢; rw [ih]; simp [M.fcells]; omega
theorem M.cellsF_get : ∀ (gs : List M.FileD) (i : Nat) (h : i < gs.length) (c : Nat), c < 5 → (M.cellsF gs)[i * 5 + c]? = (M.fcells gs[i])[c]?
  | [], i, h, _, _ => absurd h (Nat.not_lt_zero _)
  | f :: gs, 0, _, c, hc => by
    simp only [M.cellsF, List.flatMap_cons, Nat.zero_mul, Nat.zero_add, List.getElem_cons_zero]
    rw [List.getElem?_append_left (by simp [M.fcells]; omega)]
  | f :: gs, i + 1, h, c, hc => by
    simp only [M.cellsF, List.flatMap_cons, List.getElem_cons_succ]
    rw [List.getElem?_append_right (by simp [M.fcells]; omega), show (i + 1) * 5 + c - (M.fcells f).length = i * 5 + c by simp [M.fcells]; omega]
    exact M.cellsF_get gs i (by simpa using h) c hc

/-- A slice of files in a row that is the call's own. -/
def M.Own (w : World) (base : Nat) (T : TypeId) (v : Value) (gs : List M.FileD) : Prop := w.ownsRow base T 5 v gs.length (M.cellsF gs)
theorem M.Own.files {w : World} {base : Nat} {T : TypeId} {v : Value} {gs : List M.FileD} (h : M.Own w base T v gs) : ∃ a cap, v = .slice a gs.length cap ∧ M.Files w a gs.length cap gs := by
  obtain ⟨hl, ⟨rfl, h0⟩ | ⟨g, cp, cur, hv, hb, hh, hn, hc, hz, ht⟩⟩ := h
  · rw [h0]
    exact ⟨none, 0, rfl, by rw [h0], Nat.le_refl _, Nat.zero_le _, fun h => absurd h (Nat.lt_irrefl _)⟩
  · refine ⟨_, cp, hv, rfl, hn, hc, fun _ => ⟨g, 0, rfl, fun i hi => ?_⟩⟩
    have cell : ∀ c, c < 5 → w.cell? ⟨g, 0 + i * 5 + c, none⟩ = (M.fcells gs[i])[c]? := fun c hcc => by
      rw [← M.cellsF_get gs i hi c hcc, ← ht, List.getElem?_take_of_lt (by omega)]
      simp [World.cell?, hh]
    exact ⟨cell 0 (by omega), cell 1 (by omega), cell 2 (by omega), cell 3 (by omega), cell 4 (by omega)⟩
theorem M.FilesAt.cells {w : World} {b off : Nat} {fs : List M.FileD} (h : M.FilesAt w b off fs) : ∀ j u, (M.cellsF fs)[j]? = some u → w.cell? ((⟨b, off, none⟩ : Addr).add j) = some u := by
  intro j u hj
  have hlt : j < fs.length * 5 := by
    have := (List.getElem?_eq_some_iff.1 hj).1
    rwa [M.cellsF_len] at this
  have hq : j / 5 < fs.length := by omega
  have e := M.cellsF_get fs (j / 5) hq (j % 5) (by omega)
  rw [show j / 5 * 5 + j % 5 = j by omega] at e
  rw [e] at hj
  have ad : (⟨b, off, none⟩ : Addr).add j = ⟨b, off + j, none⟩ := by
    unfold Addr.add
    split
    · next h => rw [h]; rfl
    · rfl
  rw [ad]
  obtain ⟨c0, c1, c2, c3, c4⟩ := h (j / 5) hq
  have h5 : j % 5 = 0 ∨ j % 5 = 1 ∨ j % 5 = 2 ∨ j % 5 = 3 ∨ j % 5 = 4 := by omega
  rcases h5 with h | h | h | h | h
  · rw [h] at hj; rw [show off + j = off + j / 5 * 5 by omega, c0]; simpa [M.fcells] using hj
  · rw [h] at hj; rw [show off + j = off + j / 5 * 5 + 1 by omega, c1]; simpa [M.fcells] using hj
  · rw [h] at hj; rw [show off + j = off + j / 5 * 5 + 2 by omega, c2]; simpa [M.fcells] using hj
  · rw [h] at hj; rw [show off + j = off + j / 5 * 5 + 3 by omega, c3]; simpa [M.fcells] using hj
  · rw [h] at hj; rw [show off + j = off + j / 5 * 5 + 4 by omega, c4]; simpa [M.fcells] using hj
end Go.Proofs.YtephjmlcbpfnaaaGreatDoor

/-
  A row of files that a call owns and makes longer.
-/
namespace Go.Proofs.YtephjmlcbpfnaaaGreatDoor
open Go.RowKit

theorem Tryz.infoFn : (Tryz.prog.info? 54).map (fun i => (i.zero, i.size, i.bytes)) = some (some (.agg #[.string ⟨#[]⟩, .bool false, .int .i64 0, .int .i64 0, .string ⟨#[]⟩]), 5, 56) := by kernel_rfl
theorem M.five_n (w : World) (c : M.FileD) (T : TypeId) : ∀ j u, (M.fcells c)[j]? = some u → (w.alloc (.cells #[.string c.path, .bool c.dir, .int .i64 c.mode, .int .i64 c.time, .string c.data] T)).cell? ((⟨w.heap.size, 0, none⟩ : Addr).add j) = some u := by
  intro j u hu
  rw [Addr.add_lit, Nat.zero_add, World.cell?_alloc_mark]
  simpa [M.fcells] using hu
theorem M.oneCellN (x : M.FileD) : ∀ v ∈ M.fcells x, v.oneCell' = true := by
  intro v hv
  simp [M.fcells] at hv
  rcases hv with rfl | rfl | rfl | rfl | rfl <;> rfl
theorem M.Own.more {w : World} {base : Nat} {v : Value} {fs : List M.FileD} {f : M.FileD} (h : w.ownsRow base 54 5 v (fs.length + 1) (M.cellsF fs ++ M.fcells f)) : M.Own w base 54 v (fs ++ [f]) := by
  unfold M.Own
  rw [← M.cellsF_snoc, List.length_append]
  exact h
theorem M.Own.below {w W : World} {base : Nat} {v : Value} {fs : List M.FileD} (h : M.Own w base 54 v fs) (hb : Below w.heap.size w W) : M.Own W base 54 v fs := by
  obtain ⟨hl, h0 | ⟨g, cap, cur, hv, hg, hh, hn, hc, hz, ht⟩⟩ := h
  · exact ⟨hl, .inl h0⟩
  · exact ⟨hl, .inr ⟨g, cap, cur, hv, hg, by rw [hb.block g (Array.getElem?_eq_some_iff.1 hh).1]; exact hh, hn, hc, hz, ht⟩⟩
end Go.Proofs.YtephjmlcbpfnaaaGreatDoor
