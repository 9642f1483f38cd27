/-
  An argument that is a slice of dumps, opened.
-/
import Derived.Test.YtpokcbcffijheabDumpSW
import Derived.Test.YtpokcbcffijheabOwnDump
namespace Go.Proofs.Ytpokcbcffijheab
open Go.ChangeShapes Go.WideShapes Go.Deep Go.RowKit

theorem M.open_dumps {H : Type} {enc : TypeId × Value → H} {P : Program} {w : World} {base : Nat} {spare : Nat → Bool} {held : Bool} {t e es : TypeId} {g0 g1 g2 g3 g4 g5 g6 g7 g8 f0 f1 f2 f3 : Field} {fuel : Nat} {cs : List Value} {x : DataW H × List MemPlace}
    (ht : P.underlying t = some (.slice e)) (he : P.underlying e = some (.struct #[g0, g1, g2, g3, g4, g5, g6, g7, g8])) (ce : P.cellsOf e = 9)
    (po : g0.offset = 0 ∧ g1.offset = 1 ∧ g2.offset = 2 ∧ g3.offset = 3 ∧ g4.offset = 4 ∧ g5.offset = 5 ∧ g6.offset = 6 ∧ g7.offset = 7 ∧ g8.offset = 8)
    (pk : P.cellsOf g0.type = 1 ∧ P.cellsOf g1.type = 1 ∧ P.cellsOf g2.type = 1 ∧ P.cellsOf g3.type = 1 ∧ P.cellsOf g4.type = 1 ∧ P.cellsOf g5.type = 1 ∧ P.cellsOf g6.type = 1 ∧ P.cellsOf g7.type = 1 ∧ P.cellsOf g8.type = 1)
    (h0 : P.underlying g0.type = some (.int .i64)) (h1 : P.underlying g1.type = some .string) (h2 : P.underlying g2.type = some (.int .i64)) (h3 : P.underlying g3.type = some (.int .i64)) (h4 : P.underlying g4.type = some (.int .i64)) (h5 : P.underlying g5.type = some (.int .i64)) (h6 : P.underlying g6.type = some (.int .i64)) (h7 : P.underlying g7.type = some (.int .i64))
    (h8 : P.underlying g8.type = some (.slice es)) (hes : P.underlying es = some (.struct #[f0, f1, f2, f3])) (ces : P.cellsOf es = 4)
    (fo : f0.offset = 0 ∧ f1.offset = 1 ∧ f2.offset = 2 ∧ f3.offset = 3) (fk : P.cellsOf f0.type = 1 ∧ P.cellsOf f1.type = 1 ∧ P.cellsOf f2.type = 1 ∧ P.cellsOf f3.type = 1)
    (u0 : P.underlying f0.type = some (.int .i64)) (u1 : P.underlying f1.type = some (.int .i64)) (u2 : P.underlying f2.type = some (.int .i64)) (u3 : P.underlying f3.type = some (.int .i64))
    (h : DataW.trod enc P w base spare held fuel t cs = some x) :
    ∃ (a : Option Addr) (len cap : Nat) (ds : List M.DumpD), cs = [.slice a len cap] ∧ M.Dps w a len cap ds ∧ ∀ d ∈ ds, M.dok d := by
  rcases open_slice ht h with ⟨h0, _⟩ | ⟨a, len, cap, m, n, D, Pl, rfl, hb, hl, hm, hmm, rfl, hx⟩
  · exact ⟨none, 0, 0, [], h0, ⟨rfl, Nat.le_refl _, Nat.zero_le _, fun h => absurd h (Nat.lt_irrefl _)⟩, fun f hf => by simp at hf⟩
  have hlm : len ≤ m := by rw [hmm]; split <;> omega
  have each : ∀ i, i < len → ∃ d : M.DumpD, (w.cell? (a.add (i * 9)) = some (.int .i64 d.id) ∧ w.cell? (a.add (i * 9 + 1)) = some (.string d.host) ∧ w.cell? (a.add (i * 9 + 2)) = some (.int .i64 d.run) ∧ w.cell? (a.add (i * 9 + 3)) = some (.int .i64 d.lev) ∧ w.cell? (a.add (i * 9 + 4)) = some (.int .i64 d.base) ∧ w.cell? (a.add (i * 9 + 5)) = some (.int .i64 d.day) ∧ w.cell? (a.add (i * 9 + 6)) = some (.int .i64 d.many) ∧ w.cell? (a.add (i * 9 + 7)) = some (.int .i64 d.crc)) ∧ (∃ a' n' c', w.cell? (a.add (i * 9 + 8)) = some (.slice a' n' c') ∧ M.Pts w a' n' c' d.ps) ∧ M.dok d := by
    intro i hi
    obtain ⟨cs', h1', h2'⟩ := hx i (by omega)
    rw [ce] at h1'
    obtain ⟨_, hlen, hcell⟩ := World.cells?_some h1'
    obtain ⟨x1, hs, x2, x3, x4, x5, x6, x7, a', n', c', ps, rfl, hp, hok⟩ := M.open_dump he ce po pk h0 h1 h2 h3 h4 h5 h6 h7 h8 hes ces fo fk u0 u1 u2 u3 h2'
    have r0 := hcell 0 (by simp)
    have r1 := hcell 1 (by simp)
    have r2 := hcell 2 (by simp)
    have r3 := hcell 3 (by simp)
    have r4 := hcell 4 (by simp)
    have r5 := hcell 5 (by simp)
    have r6 := hcell 6 (by simp)
    have r7 := hcell 7 (by simp)
    have r8 := hcell 8 (by simp)
    rw [add_add] at r0 r1 r2 r3 r4 r5 r6 r7 r8
    exact ⟨⟨x1, hs, x2, x3, x4, x5, x6, x7, ps⟩, ⟨by simpa using r0, by simpa using r1, by simpa using r2, by simpa using r3, by simpa using r4, by simpa using r5, by simpa using r6, by simpa using r7⟩, ⟨a', n', c', by simpa using r8, hp⟩, hok⟩
  have hin : Inhabited M.DumpD := ⟨⟨0, ⟨#[]⟩, 0, 0, 0, 0, 0, 0, []⟩⟩
  obtain ⟨F, hF⟩ := choose_lt each
  refine ⟨some a, len, cap, (List.range len).map F, rfl, ⟨by simp, hl, hm, fun hpos => ?_⟩, fun f hf => ?_⟩
  · have hs : a.spot = none := by
      have h0 := (hF 0 hpos).1.1
      simp only [Nat.zero_mul, Addr.add, if_pos] at h0
      unfold World.cell? at h0
      split at h0
      · cases hq : a.spot with
        | none => rfl
        | some q => simp [hq] at h0
      · cases h0
    obtain ⟨b, off, spot⟩ := a
    simp only at hs
    subst hs
    have ad : ∀ q, (⟨b, off, none⟩ : Addr).add q = ⟨b, off + q, none⟩ := fun q => by
      unfold Addr.add
      split
      · next h => subst h; rfl
      · rfl
    refine ⟨b, off, rfl, fun i hi => ?_⟩
    have hi' : i < len := by simpa using hi
    obtain ⟨⟨r0, r1, r2, r3, r4, r5, r6, r7⟩, ⟨a', n', c', r8, hp⟩, _⟩ := hF i hi'
    simp only [ad] at r0 r1 r2 r3 r4 r5 r6 r7 r8
    simp only [List.getElem_map, List.getElem_range]
    exact ⟨⟨r0, by simpa [Nat.add_assoc] using r1, by simpa [Nat.add_assoc] using r2, by simpa [Nat.add_assoc] using r3, by simpa [Nat.add_assoc] using r4, by simpa [Nat.add_assoc] using r5, by simpa [Nat.add_assoc] using r6, by simpa [Nat.add_assoc] using r7⟩, a', n', c', by simpa [Nat.add_assoc] using r8, hp⟩
  · obtain ⟨i, hi, rfl⟩ := List.mem_map.1 hf
    exact (hF i (List.mem_range.1 hi)).2.2
end Go.Proofs.Ytpokcbcffijheab
