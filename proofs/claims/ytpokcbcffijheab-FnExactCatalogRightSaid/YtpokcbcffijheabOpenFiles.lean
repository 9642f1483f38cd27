/-
  An argument that is a slice of files, opened: the files as data.
-/
import Derived.Test.YtpokcbcffijheabFileMath
import Derived.Deep.Slices
import Derived.ChangeSame
namespace Go.Proofs.Ytpokcbcffijheab
open Go.ChangeShapes Go.WideShapes Go.Deep

theorem M.wf_i64 {n : Int} (h : (Lit.int .i64 n).wf = true) : -9223372036854775808 ≤ n ∧ n ≤ 9223372036854775807 := by
  have h' : IntKind.i64.min ≤ n ∧ n ≤ 9223372036854775807 := by simpa [Lit.wf, IntKind.wrap] using h
  exact ⟨h'.1, h'.2⟩

theorem M.open_files {H : Type} {enc : TypeId × Value → H} {P : Program} {w : World} {base : Nat} {spare : Nat → Bool} {held : Bool} {t e : TypeId} {f0 f1 f2 f3 f4 : Field} {fuel : Nat} {cs : List Value} {x : DataW H × List MemPlace}
    (ht : P.underlying t = some (.slice e)) (he : P.underlying e = some (.struct #[f0, f1, f2, f3, f4])) (ce : P.cellsOf e = 5)
    (o0 : f0.offset = 0) (o1 : f1.offset = 1) (o2 : f2.offset = 2) (o3 : f3.offset = 3) (o4 : f4.offset = 4)
    (c0 : P.cellsOf f0.type = 1) (c1 : P.cellsOf f1.type = 1) (c2 : P.cellsOf f2.type = 1) (c3 : P.cellsOf f3.type = 1) (c4 : P.cellsOf f4.type = 1)
    (u0 : P.underlying f0.type = some .string) (u1 : P.underlying f1.type = some .bool) (u2 : P.underlying f2.type = some (.int .i64)) (u3 : P.underlying f3.type = some (.int .i64)) (u4 : P.underlying f4.type = some .string)
    (h : DataW.trod enc P w base spare held fuel t cs = some x) :
    ∃ (a : Option Addr) (len cap : Nat) (fs : List M.FileD), cs = [.slice a len cap] ∧ M.Files w a len cap fs ∧ ∀ f ∈ fs, M.fok f := by
  rcases open_slice ht h with ⟨h0, _⟩ | ⟨a, len, cap, m, n, D, Pl, rfl, hb, hl, hm, hmm, rfl, hx⟩
  · exact ⟨none, 0, 0, [], h0, ⟨rfl, Nat.le_refl _, Nat.zero_le _, fun h => absurd h (Nat.lt_irrefl _)⟩, fun f hf => by simp at hf⟩
  have hlm : len ≤ m := by rw [hmm]; split <;> omega
  have each : ∀ i, i < len → ∃ f : M.FileD, w.cell? (a.add (i * 5)) = some (.string f.path) ∧ w.cell? (a.add (i * 5 + 1)) = some (.bool f.dir) ∧ w.cell? (a.add (i * 5 + 2)) = some (.int .i64 f.mode) ∧
      w.cell? (a.add (i * 5 + 3)) = some (.int .i64 f.time) ∧ w.cell? (a.add (i * 5 + 4)) = some (.string f.data) ∧ M.fok f := by
    intro i hi
    obtain ⟨cs', h1, h2⟩ := hx i (by omega)
    rw [ce] at h1
    obtain ⟨_, hlen, hcell⟩ := World.cells?_some h1
    obtain ⟨xs, k, hk, hxy, _, hxl, hf⟩ := DataW.trod_struct he h2
    match xs, hxl, cs', hlen with
    | [y0, y1, y2, y3, y4], _, [v0, v1, v2, v3, v4], _ =>
      have g0 := hf 0 f0 rfl
      have g1 := hf 1 f1 rfl
      have g2 := hf 2 f2 rfl
      have g3 := hf 3 f3 rfl
      have g4 := hf 4 f4 rfl
      simp [o0, o1, o2, o3, o4, c0, c1, c2, c3, c4] at g0 g1 g2 g3 g4
      obtain ⟨p, e0, _, hp⟩ := DataW.trod_string u0 g0
      obtain ⟨d, e1, _⟩ := DataW.trod_bool u1 g1
      obtain ⟨mo, e2, _, hmo⟩ := DataW.trod_int u2 g2
      obtain ⟨ti, e3, _, hti⟩ := DataW.trod_int u3 g3
      obtain ⟨da, e4, _, hda⟩ := DataW.trod_string u4 g4
      obtain rfl := List.singleton_inj.1 e0
      obtain rfl := List.singleton_inj.1 e1
      obtain rfl := List.singleton_inj.1 e2
      obtain rfl := List.singleton_inj.1 e3
      obtain rfl := List.singleton_inj.1 e4
      have r0 := hcell 0 (by omega)
      have r1 := hcell 1 (by omega)
      have r2 := hcell 2 (by omega)
      have r3 := hcell 3 (by omega)
      have r4 := hcell 4 (by omega)
      rw [add_add] at r0 r1 r2 r3 r4
      have w2 := M.wf_i64 hmo
      have w3 := M.wf_i64 hti
      exact ⟨⟨p, d, mo, ti, da⟩, by simpa using r0, by simpa using r1, by simpa using r2, by simpa using r3, by simpa using r4, hp, hda, w2.1, w2.2, w3.1, w3.2⟩
  have hin : Inhabited M.FileD := ⟨⟨ByteArray.empty, false, 0, 0, ByteArray.empty⟩⟩
  obtain ⟨F, hF⟩ := choose_lt each
  refine ⟨some a, len, cap, (List.range len).map F, rfl, ⟨by simp, hl, hm, fun hpos => ?_⟩, fun f hf => ?_⟩
  · have hs : a.spot = none := by
      have h0 := (hF 0 hpos).1
      simp only [Nat.zero_mul, Addr.add, if_pos] at h0
      unfold World.cell? at h0
      split at h0
      · cases hq : a.spot with
        | none => rfl
        | some q => simp [hq] at h0
      · cases h0
    obtain ⟨b, off, spot⟩ := a
    simp only at hs
    subst hs
    have ad : ∀ q, (⟨b, off, none⟩ : Addr).add q = ⟨b, off + q, none⟩ := fun q => by
      unfold Addr.add
      split
      · next h => subst h; rfl
      · rfl
    refine ⟨b, off, rfl, fun i hi => ?_⟩
    have hi' : i < len := by simpa using hi
    obtain ⟨r0, r1, r2, r3, r4, _⟩ := hF i hi'
    simp only [ad] at r0 r1 r2 r3 r4
    simp only [List.getElem_map, List.getElem_range]
    exact ⟨r0, by simpa [Nat.add_assoc] using r1, by simpa [Nat.add_assoc] using r2, by simpa [Nat.add_assoc] using r3, by simpa [Nat.add_assoc] using r4⟩
  · obtain ⟨i, hi, rfl⟩ := List.mem_map.1 hf
    exact (hF i (List.mem_range.1 hi)).2.2.2.2.2
end Go.Proofs.Ytpokcbcffijheab
