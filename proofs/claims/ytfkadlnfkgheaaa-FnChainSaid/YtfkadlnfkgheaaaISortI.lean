/-
  What slices.Sort and slices.Compact do to a row of numbers of the call's own.
-/
import Derived.Test.YtfkadlnfkgheaaaNumOwn
import Derived.Test.YtfkadlnfkgheaaaIFindM
import Derived.Test.YtfkadlnfkgheaaaShelfInts
import Derived.Lib.RowBridge
namespace Go.Proofs.Ytfkadlnfkgheaaa
open Go.RowKit

theorem M.holdsN {w : World} {g cap : Nat} {zs : List Int} (h : M.NumsAt w g cap zs) : Sort.Holds (Value.int .i64) w g 0 zs.toArray := by
  intro j hj
  have hj' : j < zs.length := by simpa using hj
  refine ⟨?_, h.free _⟩
  rw [Nat.zero_add, h.cell j hj', getElem!_pos zs.toArray j hj]
  simp
/-- The row behind the sort, or behind what strikes the doubles. -/
theorem M.rowPut {w : World} {g cap n : Nat} {zs ys : List Int} {os : Array Obj} (h : M.NumsAt w g cap zs) (hy : ys.length = zs.length) : M.NumsAt (Sort.grow (Sort.putRow (Value.int .i64) (Sort.ahead w n) g 0 ys.toArray) os) g cap ys ∧ w.grownBy (Sort.grow (Sort.putRow (Value.int .i64) (Sort.ahead w n) g 0 ys.toArray) os) (some g) := by
  have hlt := h.lt
  obtain ⟨cur, hh, hn, hz, ht⟩ := h
  have hb : (Sort.grow (Sort.putRow (Value.int .i64) (Sort.ahead w n) g 0 ys.toArray) os).heap[g]? = some (.cells (Sort.putCells (Value.int .i64) 0 ys.toArray cur) 2 (0, 0)) := by
    simp only [Sort.grow, Sort.putRow, Sort.mapBlock, Sort.ahead]
    rw [Array.getElem?_append_left (by simpa using hlt), Array.getElem?_modify, if_pos rfl, hh]
    rfl
  refine ⟨⟨_, hb, by omega, by simp [Sort.putCells, hz], ?_⟩, ?_⟩
  · apply List.ext_getElem?
    intro t
    by_cases h : t < ys.length
    · rw [List.getElem?_take_of_lt h]
      have hcur : t < cur.size := by omega
      simp only [Sort.putCells, Array.getElem?_toList, Array.getElem?_mapIdx]
      rw [Array.getElem?_eq_getElem hcur, Option.map_some, if_pos ⟨Nat.zero_le _, by simpa using h⟩, Nat.sub_zero, getElem!_pos ys.toArray t (by simpa using h)]
      simp [h, M.nv]
    · rw [List.getElem?_eq_none (by rw [List.length_take]; exact Nat.le_trans (Nat.min_le_left _ _) (by omega)), List.getElem?_eq_none (by simp; omega)]
  · refine ⟨rfl, rfl, rfl, ?_, fun i hi hne => ?_⟩
    · simp [Sort.grow, Sort.putRow, Sort.mapBlock, Sort.ahead]
    · simp only [Sort.grow, Sort.putRow, Sort.mapBlock, Sort.ahead]
      rw [Array.getElem?_append_left (by simpa using hi), Array.getElem?_modify, if_neg (fun e => hne (by rw [e]))]
theorem M.grow_none (w : World) : Sort.grow w #[] = w := by simp [Sort.grow]
theorem M.NumsAt.pre {w : World} {g cap : Nat} {zs ys : List Int} (h : M.NumsAt w g cap (zs ++ ys)) : M.NumsAt w g cap zs := by
  obtain ⟨cur, hh, hn, hz, ht⟩ := h
  rw [List.length_append] at hn
  refine ⟨cur, hh, by omega, hz, ?_⟩
  have := congrArg (List.take zs.length) ht
  rw [List.take_take, List.length_append, Nat.min_eq_left (by omega), List.map_append, List.take_append_of_le_length (by simp)] at this
  rw [this, List.take_of_length_le (by simp)]

def M.sorted (zs : List Int) : List Int := zs.mergeSort fun x y => decide (x ≤ y)
theorem sort_own (w : World) (base : Nat) (v : Value) (zs : List Int) (h : M.OwnN w base v zs) (hl : zs.length ≤ 1000000) :
    Calls Try.prog 55 #[v] w fun e w' => e = .returned (.tuple #[]) ∧ M.OwnN w' base v (M.sorted zs) ∧ w.grownBy w' v.ownBlock := by
  rcases h.at with ⟨rfl, rfl⟩ | ⟨g, cap, rfl, hg, hc, hN⟩
  · refine (AnyG.slices_Sort_int_none Try.laysSortI none 0 w).mono ?_
    rintro e w' ⟨rfl, rfl⟩
    exact ⟨rfl, by rw [show M.sorted [] = [] by simp [M.sorted]]; exact M.OwnN.nil _ _, World.grownBy.refl _ _⟩
  · refine (AnyG.slices_Sort_int Try.laysSortI g 0 cap zs w (M.holdsN hN) hN.lt (by omega)).mono ?_
    rintro e w' ⟨rfl, n, os, rfl⟩
    have hle : (M.sorted zs).length = zs.length := List.length_mergeSort _
    obtain ⟨h1, h2⟩ := M.rowPut (n := n) (os := os) (ys := M.sorted zs) hN hle
    refine ⟨rfl, ?_, h2⟩
    have := h1.own (base := base) hc hg
    rwa [hle] at this
theorem compact_own (w : World) (base : Nat) (v : Value) (zs : List Int) (h : M.OwnN w base v zs) (hl : zs.length ≤ 1000000) :
    Calls Try.prog 56 #[v] w fun e w' => ∃ v', e = .returned v' ∧ M.OwnN w' base v' (Lib.compact zs) ∧ w.grownBy w' v.ownBlock := by
  rcases h.at with ⟨rfl, rfl⟩ | ⟨g, cap, rfl, hg, hc, hN⟩
  · refine (AnyG.slices_Compact_int_empty Try.laysCompactI none 0 w).mono ?_
    rintro e w' ⟨rfl, rfl⟩
    exact ⟨_, rfl, M.OwnN.nil _ _, World.grownBy.refl _ _⟩
  · have hcap : zs.length ≤ cap := by obtain ⟨cur, _, h2, _⟩ := hN; exact h2
    refine (AnyG.slices_Compact_int Try.laysCompactI g 0 cap zs w (M.holdsN hN) (by omega) hcap).mono ?_
    rintro e w' ⟨rfl, q, rfl⟩
    have hle := Lib.compact_length_le zs
    have hy : (Lib.compact zs ++ List.replicate (zs.length - (Lib.compact zs).length) 0).length = zs.length := by rw [List.length_append, List.length_replicate]; omega
    obtain ⟨h1, h2⟩ := M.rowPut (n := q) (os := #[]) hN hy
    rw [M.grow_none] at h1 h2
    exact ⟨_, rfl, h1.pre.own (base := base) hc hg, h2⟩

/-- What strikes the doubles of a row that does not fall. -/
theorem M.compact_up {d : Array Int} (hs : ∀ i j, i ≤ j → j < d.size → d[i]! ≤ d[j]!) : ∀ m, m ≤ d.size → (∀ z, z ∈ Lib.compactUpTo d m ↔ ∃ j, j < m ∧ d[j]! = z) ∧ (Lib.compactUpTo d m).Pairwise (· < ·)
  | 0, _ => ⟨fun z => by simp [Lib.compactUpTo], by simp [Lib.compactUpTo]⟩
  | m + 1, hm => by
    obtain ⟨h1, h2⟩ := M.compact_up hs m (by omega)
    rw [Lib.compactUpTo_succ]
    cases hk : Lib.keeps d m
    · have hk' : ¬ (m = 0 ∨ d[m]! ≠ d[m - 1]!) := of_decide_eq_false hk
      have hm0 : 0 < m := by omega
      have he : d[m]! = d[m - 1]! := Decidable.byContradiction fun h => hk' (.inr h)
      rw [if_neg (by simp), List.append_nil]
      refine ⟨fun z => (h1 z).trans ⟨fun ⟨j, hj, e⟩ => ⟨j, by omega, e⟩, fun ⟨j, hj, e⟩ => ?_⟩, h2⟩
      by_cases hjm : j = m
      · subst hjm
        exact ⟨j - 1, by omega, by rw [← he]; exact e⟩
      · exact ⟨j, by omega, e⟩
    · have hk' : m = 0 ∨ d[m]! ≠ d[m - 1]! := of_decide_eq_true hk
      rw [if_pos rfl]
      refine ⟨fun z => ?_, ?_⟩
      · rw [List.mem_append, h1, List.mem_singleton]
        constructor
        · rintro (⟨j, hj, e⟩ | rfl)
          · exact ⟨j, by omega, e⟩
          · exact ⟨m, by omega, rfl⟩
        · rintro ⟨j, hj, e⟩
          by_cases hjm : j = m
          · subst hjm; exact .inr e.symm
          · exact .inl ⟨j, by omega, e⟩
      · rw [List.pairwise_append]
        refine ⟨h2, by simp, fun x hx y hy => ?_⟩
        rw [List.mem_singleton.1 hy]
        obtain ⟨j, hj, rfl⟩ := (h1 x).1 hx
        rcases hk' with h0 | hne
        · omega
        · have a1 := hs j (m - 1) (by omega) (by omega)
          have a2 := hs (m - 1) m (by omega) (by omega)
          omega
theorem M.compact_sorted (zs : List Int) : (∀ z, z ∈ Lib.compact (M.sorted zs) ↔ z ∈ zs) ∧ (Lib.compact (M.sorted zs)).Pairwise (· < ·) := by
  have hp : (M.sorted zs).Pairwise (fun a b => (decide (a ≤ b)) = true) := List.pairwise_mergeSort (le := fun x y => decide (x ≤ y)) (fun a b c h1 h2 => by simp at h1 h2 ⊢; omega) (fun a b => by simp; omega) zs
  have hs : ∀ i j, i ≤ j → j < (M.sorted zs).toArray.size → (M.sorted zs).toArray[i]! ≤ (M.sorted zs).toArray[j]! := by
    intro i j hij hj
    have hj' : j < (M.sorted zs).length := by simpa using hj
    rw [getElem!_pos _ j hj, getElem!_pos _ i (by simp; omega)]
    rcases Nat.lt_or_eq_of_le hij with h | rfl
    · have := List.pairwise_iff_getElem.1 hp i j (by omega) hj' h
      simpa using this
    · exact Int.le_refl _
  obtain ⟨h1, h2⟩ := M.compact_up hs (M.sorted zs).length (by simp)
  refine ⟨fun z => ?_, h2⟩
  have := h1 z
  unfold Lib.compact
  rw [this]
  have hm : z ∈ M.sorted zs ↔ z ∈ zs := List.mem_mergeSort
  rw [← hm, List.mem_iff_getElem]
  constructor
  · rintro ⟨j, hj, e⟩
    rw [getElem!_pos _ j (by simpa using hj)] at e
    exact ⟨j, hj, by simpa using e⟩
  · rintro ⟨j, hj, e⟩
    refine ⟨j, hj, ?_⟩
    rw [getElem!_pos _ j (by simpa using hj)]
    simpa using e
/-- Two rising lists of the same numbers are one. -/
theorem M.rise_eq : ∀ {l l' : List Int}, l.Pairwise (· < ·) → l'.Pairwise (· < ·) → (∀ z, z ∈ l ↔ z ∈ l') → l = l'
  | [], [], _, _, _ => rfl
  | [], b :: l', _, _, h => absurd ((h b).2 List.mem_cons_self) (by simp)
  | a :: l, [], _, _, h => absurd ((h a).1 List.mem_cons_self) (by simp)
  | a :: l, b :: l', h1, h2, h => by
    rw [List.pairwise_cons] at h1 h2
    have hab : a = b := by
      rcases List.mem_cons.1 ((h a).1 List.mem_cons_self) with e | e
      · exact e
      · rcases List.mem_cons.1 ((h b).2 List.mem_cons_self) with e' | e'
        · exact e'.symm
        · have := h1.1 b e'; have := h2.1 a e; omega
    subst hab
    congr 1
    refine M.rise_eq h1.2 h2.2 fun z => ?_
    have hz := h z
    simp only [List.mem_cons] at hz
    constructor
    · intro hm
      rcases hz.1 (.inr hm) with rfl | h'
      · have := h1.1 z hm; omega
      · exact h'
    · intro hm
      rcases hz.2 (.inr hm) with rfl | h'
      · have := h2.1 z hm; omega
      · exact h'
end Go.Proofs.Ytfkadlnfkgheaaa
