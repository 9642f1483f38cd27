/-
  Dumps in a map by their hosts: each host's in a row of the call's own.
-/
import Derived.Test.YtpokcbcffijheabOwnDump
import Derived.Test.YtpokcbcffijheabMarksOW
import Derived.WalkKit
import Derived.Maps.Own
import Derived.Maps.Views
import Derived.Maps.AppendAt
namespace Go.Proofs.Ytpokcbcffijheab
open Go.RowKit Go.Maps

/-- A slice as an element of a map. -/
def M.slElem : Value → Option (DataW Value × List MemPlace)
  | .slice a n c => some (.held (.slice a n c), [])
  | _ => none
theorem M.slElem_inv {v : Value} {y : DataW Value × List MemPlace} (h : M.slElem v = some y) : ∃ t : Option Addr × Nat × Nat, v = .slice t.1 t.2.1 t.2.2 ∧ y = (.held v, []) := by
  unfold M.slElem at h
  split at h
  · exact ⟨(_, _, _), rfl, (Option.some.inj h).symm⟩
  · cases h
def M.hkey (p : ByteArray) : Lit := .string p.data.toList
theorem M.hkey_inj {p q : ByteArray} (h : M.hkey p = M.hkey q) : p = q := by
  unfold M.hkey at h
  have : p.data.toList = q.data.toList := by simpa using h
  exact ByteArray.ext (Array.toList_inj.1 this)
theorem M.hkey_lit (p : ByteArray) : WideAt.IsKeyLit (M.hkey p) := by unfold M.hkey; simp [WideAt.IsKeyLit]
theorem M.hkeyS : Keyed Try.prog 9 := string_keyed Try.underlying9
theorem M.zeroSl (w : World) : (zeroValue 25).run Try.prog w = .ok (.slice none 0 0) w := by kernel_rfl
theorem M.sameT {a b : ByteArray} : (a.toList == b.toList) = true ↔ a = b := by
  constructor
  · intro h
    have := beq_iff_eq.1 h
    rw [ByteArray.toList_eq, ByteArray.toList_eq] at this
    exact ByteArray.ext (Array.toList_inj.1 this)
  · rintro rfl; simp
/-- The dumps of a host. -/
def M.ofH (ds : List M.DumpD) (h : ByteArray) : List M.DumpD := ds.filter fun d => d.host.toList == h.toList
theorem M.ofH_yes (ds : List M.DumpD) (d : M.DumpD) : M.ofH (ds ++ [d]) d.host = M.ofH ds d.host ++ [d] := by simp [M.ofH]
theorem M.ofH_no (ds : List M.DumpD) {d : M.DumpD} {h : ByteArray} (hne : h ≠ d.host) : M.ofH (ds ++ [d]) h = M.ofH ds h := by
  have : (d.host.toList == h.toList) = false := by
    cases e : (d.host.toList == h.toList)
    · rfl
    · exact absurd (M.sameT.1 e).symm hne
  simp [M.ofH, this]

/-- A slice that owns a row of dumps; the parts lie where they lay. -/
def M.OwnR (w0 W : World) (base : Nat) (v : Value) (ds : List M.DumpD) : Prop :=
  ∃ ps : List (M.DumpD × Value), ps.map Prod.fst = ds ∧ W.ownsRow base 36 9 v ps.length (M.cellsD ps) ∧ ∀ p ∈ ps, ∃ a n c, p.2 = .slice a n c ∧ M.Pts w0 a n c p.1.ps
theorem M.OwnR.nil (w0 W : World) (base : Nat) : M.OwnR w0 W base (.slice none 0 0) [] := ⟨[], rfl, ⟨rfl, .inl ⟨rfl, rfl⟩⟩, fun p hp => by simp at hp⟩
theorem M.OwnR.len {w0 W : World} {base : Nat} {v : Value} {ds : List M.DumpD} (h : M.OwnR w0 W base v ds) : ∃ a cap, v = .slice a ds.length cap := by
  obtain ⟨ps, rfl, ⟨hl, ⟨rfl, h0⟩ | ⟨g, cap, cur, rfl, -⟩⟩, -⟩ := h
  · exact ⟨none, 0, by rw [List.length_map, h0]⟩
  · exact ⟨_, cap, by rw [List.length_map]⟩
theorem M.OwnR.kept {w0 W W' : World} {base : Nat} {v : Value} {ds : List M.DumpD} {row : Option Nat} (h : M.OwnR w0 W base v ds) (hg : W.grownBy W' row) (hne : v.ownBlock = none ∨ v.ownBlock ≠ row) : M.OwnR w0 W' base v ds := by
  obtain ⟨ps, h1, h2, h3⟩ := h
  exact ⟨ps, h1, h2.kept hg hne, h3⟩
theorem M.OwnR.lt {w0 W : World} {base : Nat} {v : Value} {ds : List M.DumpD} (h : M.OwnR w0 W base v ds) : ∀ g, v.ownBlock = some g → base ≤ g ∧ g < W.heap.size := by
  obtain ⟨ps, -, h2, -⟩ := h
  exact World.ownsRow.lt h2
theorem M.OwnR.dps {w0 W : World} {base : Nat} {v : Value} {ds : List M.DumpD} (h : M.OwnR w0 W base v ds) (hb0 : Below w0.heap.size w0 W) : ∃ a cap, v = .slice a ds.length cap ∧ M.Dps W a ds.length cap ds := by
  obtain ⟨ps, rfl, ⟨hl, ⟨rfl, h0⟩ | ⟨g, cap, cur, rfl, hb, hh, hn, hc, hz, ht⟩⟩, hp⟩ := h
  · have hps : ps = [] := List.length_eq_zero_iff.1 h0
    subst hps
    exact ⟨none, 0, rfl, rfl, Nat.le_refl _, Nat.zero_le _, fun h => absurd h (Nat.lt_irrefl _)⟩
  · refine ⟨_, cap, by rw [List.length_map], rfl, by rw [List.length_map]; exact hn, hc, fun _ => ⟨g, 0, rfl, fun i hi => ?_⟩⟩
    rw [List.length_map] at hi
    have key : ∀ j, j < 9 → W.cell? ⟨g, 0 + i * 9 + j, none⟩ = (M.dcells ps[i])[j]? := by
      intro j hj
      rw [← M.cellsD_get ps i hi j hj, ← ht]
      have hlt : i * 9 + j < ps.length * 9 := by omega
      rw [List.getElem?_take_of_lt hlt]
      simp [World.cell?, hh]
    obtain ⟨a, n, c, e2, hpt⟩ := hp _ (List.getElem_mem hi)
    simp only [List.getElem_map]
    refine ⟨⟨key 0 (by omega), key 1 (by omega), key 2 (by omega), key 3 (by omega), key 4 (by omega), key 5 (by omega), key 6 (by omega), key 7 (by omega)⟩, a, n, c, ?_, hpt.below hb0⟩
    rw [key 8 (by omega)]
    simp [M.dcells, e2]

/-- A map of the dumps by their hosts. -/
structure M.GrpD (w0 W : World) (b base k : Nat) (ds : List M.DumpD) (D : DataW Value) (V : ByteArray → Value) : Prop where
  own : W.ownsMap Try.prog 9 M.slElem b k D
  isM : IsMap D
  look : ∀ h z, D.atKey (M.hkey h) z = if M.ofH ds h = [] then z else .held (V h)
  row : ∀ h, M.OwnR w0 W base (V h) (M.ofH ds h)
  apart : ∀ h h', h ≠ h' → ∀ g, (V h).ownBlock = some g → (V h').ownBlock ≠ some g
  nope : ∀ h, M.ofH ds h = [] → V h = .slice none 0 0
  lt : b < base
theorem M.GrpD.start (w0 W : World) : M.GrpD w0 (W.alloc (.map #[] 0)) W.heap.size (W.heap.size + 1) 0 [] (.map []) (fun _ => .slice none 0 0) :=
  ⟨World.ownsMap_made _ _ _ _, isMap_empty, fun h z => rfl, fun h => M.OwnR.nil _ _ _, fun h h' _ g hg => (by cases hg), fun _ _ => rfl, Nat.lt_succ_self _⟩
theorem M.GrpD.kept {w0 W W' : World} {b base k : Nat} {ds : List M.DumpD} {D : DataW Value} {V : ByteArray → Value} (h : M.GrpD w0 W b base k ds D V) {row : Option Nat} (hg : W.grownBy W' row) (hb : some b ≠ row) (hr : ∀ h, (V h).ownBlock = .none ∨ (V h).ownBlock ≠ row) : M.GrpD w0 W' b base k ds D V :=
  ⟨h.own.kept hg hb, h.isM, h.look, fun x => (h.row x).kept hg (hr x), h.apart, h.nope, h.lt⟩
theorem M.GrpD.none_of {w0 W W' : World} {b base k : Nat} {ds : List M.DumpD} {D : DataW Value} {V : ByteArray → Value} (h : M.GrpD w0 W b base k ds D V) (hg : W.grownBy W' .none) : M.GrpD w0 W' b base k ds D V :=
  h.kept hg (by simp) (fun x => by cases e : (V x).ownBlock with | none => exact .inl rfl | some g => exact .inr (by simp))
theorem M.GrpD.below {w0 W W' : World} {b base k : Nat} {ds : List M.DumpD} {D : DataW Value} {V : ByteArray → Value} (h : M.GrpD w0 W b base k ds D V) (hb : Below W.heap.size W W') : M.GrpD w0 W' b base k ds D V :=
  h.none_of ⟨hb.os, hb.tape, hb.output, hb.size, fun i hi _ => hb.block i hi⟩
theorem M.hkeyOf {h : ByteArray} (hz : h.size ≤ maxLen) : keyOf Try.prog 9 (.string h) = some (M.hkey h) := Go.WideMaps.keyOf_string_mk Try.underlying9 hz
theorem M.GrpD.lookup {w0 W : World} {b base k : Nat} {ds : List M.DumpD} {D : DataW Value} {V : ByteArray → Value} (h : M.GrpD w0 W b base k ds D V) {x : ByteArray} (hz : x.size ≤ maxLen) :
    (Instr.lookup 55 (.map (some b)) (.string x) false).run Try.prog W = .ok (V x) W := by
  obtain ⟨v, ps, hrun, hv⟩ := h.own.lookup M.hkeyS Try.underlying55 (M.zeroSl _) (zd := .held (.slice none 0 0)) (zp := []) rfl (M.hkeyOf hz)
  obtain ⟨t, rfl, e⟩ := M.slElem_inv hv
  have e1 := congrArg Prod.fst e
  simp only at e1
  rw [h.look] at e1
  rw [hrun]
  by_cases h0 : M.ofH ds x = []
  · rw [if_pos h0] at e1
    rw [h.nope x h0]
    have := DataW.held.inj e1
    rw [← this]
  · rw [if_neg h0] at e1
    rw [DataW.held.inj e1]
/-- A dump more of a host. -/
theorem M.GrpD.store {w0 W1 W2 : World} {b base k : Nat} {ds : List M.DumpD} {D : DataW Value} {V : ByteArray → Value} (h : M.GrpD w0 W1 b base k ds D V) {d : M.DumpD} {v' : Value} (ho : M.OwnR w0 W2 base v' (M.ofH ds d.host ++ [d])) (hg : W1.grownBy W2 (V d.host).ownBlock)
    (hat : v'.ownBlock = (V d.host).ownBlock ∨ v'.ownBlock = some W1.heap.size) (hk : k < maxLen) (hz : d.host.size ≤ maxLen) :
    ∃ W3, (Instr.mapUpdate 55 (.map (some b)) (.string d.host) v').run Try.prog W2 = .ok () W3 ∧ (∃ D' V', M.GrpD w0 W3 b base (k + 1) (ds ++ [d]) D' V') ∧ W2.grownBy W3 (some b) := by
  have hbl := h.lt
  have hnb : ∀ x g, (V x).ownBlock = some g → base ≤ g ∧ g < W1.heap.size := fun x => (h.row x).lt
  have hob : W2.ownsMap Try.prog 9 M.slElem b k D := h.own.kept hg (fun e => by have := (hnb _ _ e.symm).1; omega)
  obtain ⟨a, cap, rfl⟩ := ho.len
  obtain ⟨W3, hrun, ho3, hg3⟩ := hob.update M.hkeyS Try.underlying55 hk (M.hkeyOf hz) (val := .slice a (M.ofH ds d.host ++ [d]).length cap) (d := .held (.slice a (M.ofH ds d.host ++ [d]).length cap)) (ps := []) rfl
  generalize (Value.slice a (M.ofH ds d.host ++ [d]).length cap) = v' at ho hat hrun ho3
  have hv3 : ∀ g, v'.ownBlock = some g → base ≤ g ∧ g < W2.heap.size := ho.lt
  refine ⟨W3, hrun, ⟨D.put (M.hkey d.host) (.held v'), fun x => if (x.toList == d.host.toList) = true then v' else V x, ho3, h.isM.put _ _, fun x z => ?_, fun x => ?_, fun x y hxy g hx => ?_, fun x h0 => ?_, hbl⟩, hg3⟩
  · by_cases e : x = d.host
    · subst e
      rw [atKey_put_same h.isM (M.hkey_lit _), M.ofH_yes, if_neg (by simp), if_pos (by simp)]
    · have e2 : ¬ (x.toList == d.host.toList) = true := fun h => e (M.sameT.1 h)
      rw [atKey_put_other (fun h => e (M.hkey_inj h)), M.ofH_no _ e, if_neg e2]
      exact h.look x z
  · by_cases e : x = d.host
    · subst e
      rw [M.ofH_yes, if_pos (by simp)]
      exact ho.kept hg3 (by cases e : v'.ownBlock with | none => exact .inl rfl | some g => exact .inr fun e2 => by have := (hv3 g e).1; cases e2; omega)
    · have e2 : ¬ (x.toList == d.host.toList) = true := fun h => e (M.sameT.1 h)
      rw [M.ofH_no _ e, if_neg e2]
      have h1 : M.OwnR w0 W2 base (V x) (M.ofH ds x) := (h.row x).kept hg (by cases e3 : (V x).ownBlock with | none => exact .inl rfl | some g => exact .inr fun e4 => h.apart x d.host e g e3 e4.symm)
      exact h1.kept hg3 (by cases e3 : (V x).ownBlock with | none => exact .inl rfl | some g => exact .inr fun e4 => by have := (hnb x g e3).1; cases e4; omega)
  · try simp only at hx
    try simp only
    by_cases ex : x = d.host
    · have ey : y ≠ d.host := fun e => hxy (ex.trans e.symm)
      have ey2 : ¬ (y.toList == d.host.toList) = true := fun h => ey (M.sameT.1 h)
      subst ex
      rw [if_pos (by simp)] at hx
      rw [if_neg ey2]
      rcases hat with h1 | h1
      · rw [h1] at hx
        exact h.apart _ y hxy g hx
      · rw [h1] at hx
        intro e
        have := (hnb y g e).2
        cases hx
        omega
    · have ex2 : ¬ (x.toList == d.host.toList) = true := fun h => ex (M.sameT.1 h)
      rw [if_neg ex2] at hx
      by_cases ey : y = d.host
      · subst ey
        rw [if_pos (by simp)]
        rcases hat with h1 | h1
        · rw [h1]; exact h.apart x _ hxy g hx
        · rw [h1]
          intro e
          have := (hnb x g hx).2
          cases e
          omega
      · have ey2 : ¬ (y.toList == d.host.toList) = true := fun h => ey (M.sameT.1 h)
        rw [if_neg ey2]
        exact h.apart x y hxy g hx
  · by_cases e : x = d.host
    · subst e
      rw [M.ofH_yes] at h0
      simp at h0
    · have e2 : ¬ (x.toList == d.host.toList) = true := fun h => e (M.sameT.1 h)
      rw [M.ofH_no _ e] at h0
      rw [if_neg e2]
      exact h.nope x h0
end Go.Proofs.Ytpokcbcffijheab
