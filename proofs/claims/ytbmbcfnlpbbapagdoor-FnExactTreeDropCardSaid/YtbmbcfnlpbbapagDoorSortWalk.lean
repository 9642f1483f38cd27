/-
  What the library's sort does to a row of files, by the comparison that the program hands it: they rise by their paths, none twice.
-/
import Derived.Test.YtbmbcfnlpbbapagDoorOrderMath
import Derived.Test.YtbmbcfnlpbbapagDoorShelf
import Derived.Test.YtbmbcfnlpbbapagDoorShelfSort
import Derived.WalkKit
import Derived.WalkSpells
import Derived.WalkLawsBesides
namespace Go.Proofs.YtbmbcfnlpbbapagDoor
open Go.RowKit

theorem M.encF_arr (x : M.FileD) : (M.fcells x).toArray = #[.string x.path, .bool x.dir, .int .i64 x.mode, .int .i64 x.time, .string x.data] := rfl

set_option maxRecDepth 100000 in
set_option maxHeartbeats 1600000 in
theorem iCmp_any (x y : M.FileD) (W : World) : Calls Tryd.prog 48 #[.agg (M.fcells x).toArray, .agg (M.fcells y).toArray] W fun e w' => e = .returned (.int .i64 (M.cf x y)) ∧ ∃ q os', w' = Sort.grow (W.drewN q) os' := by
  have HC : Hid (∀ W', Calls Tryd.prog 49 #[.string x.path, .string y.path] W' fun e w' => e = .returned (.int .i64 (M.cf x y)) ∧ W' = w') := fun W' => by
    refine (Tryd.strings_Compare x.path y.path W').mono ?_
    rintro e w' ⟨rfl, rfl⟩
    exact ⟨rfl, rfl⟩
  rw [M.encF_arr, M.encF_arr]
  generalize M.cf x y = r at HC ⊢
  go_enter Tryd.func48, Tryd.ntmps48
  go_wp2_with (go_at_call 49; refine (HC.out _).mono ?_; rintro e w' ⟨rfl, rfl⟩)
  go_ret
  exact ⟨rfl, 0, _, by rw [Sort.alloc_eq_grow, Sort.alloc_eq_grow, Sort.grow_grow]; rfl⟩

theorem M.flat_get [Inhabited M.FileD] (d : Array M.FileD) (t : Nat) (h : t < d.size * 5) : (Sort.flatK M.fcells 5 d)[t]! = ((M.cellsF d.toList)[t]?).getD default := by
  have hq : t / 5 < d.size := by omega
  rw [Sort.get_flatK _ _ _ _ h]
  have e := M.cellsF_get d.toList (t / 5) (by simpa using hq) (t % 5) (by omega)
  rw [show t / 5 * 5 + t % 5 = t by omega] at e
  rw [e, getElem!_pos d (t / 5) hq]
  simp [List.getElem!_eq_getElem?_getD]

/-- The row holds the files. -/
theorem M.holds_of [Inhabited M.FileD] {w : World} {g cap : Nat} {cur : Array Value} {T : TypeId} {gs : List M.FileD} (hh : w.heap[g]? = some (.cells cur T (0, 0))) (hn : gs.length ≤ cap) (hz : cur.size = cap * 5) (ht : cur.toList.take (gs.length * 5) = M.cellsF gs) : Sort.HoldsK M.fcells 5 w g 0 gs.toArray := by
  intro j hj
  rw [Sort.size_flatK] at hj
  have hj' : j < gs.length * 5 := by simpa using hj
  refine ⟨?_, by simp [World.frozen?, hh]⟩
  rw [M.flat_get gs.toArray j hj]
  have e : cur.toList[j]? = (M.cellsF gs)[j]? := by rw [← ht, List.getElem?_take_of_lt hj']
  have hl : j < cur.toList.length := by simp; omega
  simp only [World.cell?, hh, Nat.zero_add]
  rw [← e]
  simp only [Array.getElem?_toList]
  rw [Array.getElem?_eq_getElem (by simpa using hl)]
  simp
/-- The row behind the sort. -/
theorem M.own_sorted [Inhabited M.FileD] {w : World} {g cap n base : Nat} {cur : Array Value} {T : TypeId} {d' : Array M.FileD} {os : Array Obj} (hb : base ≤ g) (hh : w.heap[g]? = some (.cells cur T (0, 0))) (hn : d'.size ≤ cap) (hc : cap ≤ maxLen) (hz : cur.size = cap * 5) :
    M.Own (sortWorldK M.fcells 5 w g 0 n d' os) base T (.slice (some ⟨g, 0, none⟩) d'.toList.length cap) d'.toList ∧ w.grownBy (sortWorldK M.fcells 5 w g 0 n d' os) (some g) := by
  have hlt : g < w.heap.size := (Array.getElem?_eq_some_iff.1 hh).1
  constructor
  · refine ⟨M.cellsF_len _, .inr ⟨g, cap, Sort.putCells id 0 (Sort.flatK M.fcells 5 d') cur, rfl, hb, ?_, by simpa using hn, hc, by simp [Sort.putCells, hz], ?_⟩⟩
    · simp only [sortWorldK, Sort.grow, Sort.putRowK, Sort.putRow, Sort.mapBlock, Sort.ahead]
      rw [Array.getElem?_append_left (by simpa using hlt), Array.getElem?_modify, if_pos rfl, hh]
      rfl
    · apply List.ext_getElem?
      intro t
      by_cases h : t < d'.toList.length * 5
      · have h5 : t < d'.size * 5 := by simpa using h
        rw [List.getElem?_take_of_lt h]
        have hcur : t < cur.size := by omega
        simp only [Sort.putCells, Array.getElem?_toList, Array.getElem?_mapIdx]
        rw [Array.getElem?_eq_getElem hcur, Option.map_some, if_pos ⟨Nat.zero_le _, by rw [Sort.size_flatK]; omega⟩, Nat.sub_zero, M.flat_get d' t h5]
        have hl : t < (M.cellsF d'.toList).length := by rw [M.cellsF_len]; exact h
        rw [List.getElem?_eq_getElem hl]
        rfl
      · rw [List.getElem?_eq_none (by rw [List.length_take]; exact Nat.le_trans (Nat.min_le_left _ _) (by omega)), List.getElem?_eq_none (by rw [M.cellsF_len]; omega)]
  · refine ⟨rfl, rfl, rfl, ?_, fun i hi hne => ?_⟩
    · simp [sortWorldK, Sort.grow, Sort.putRowK, Sort.putRow, Sort.mapBlock, Sort.ahead]
    · simp only [sortWorldK, Sort.grow, Sort.putRowK, Sort.putRow, Sort.mapBlock, Sort.ahead]
      rw [Array.getElem?_append_left (by simpa using hi), Array.getElem?_modify, if_neg (fun e => hne (by rw [e]))]

theorem M.oneCellF (x : M.FileD) : ∀ v ∈ M.fcells x, v.oneCell' = true := by
  intro v hv
  simp [M.fcells] at hv
  rcases hv with rfl | rfl | rfl | rfl | rfl <;> rfl

set_option maxRecDepth 100000 in
theorem iSort_any (w : World) (base : Nat) (v : Value) (gs : List M.FileD) (h : M.Own w base 31 v gs) (hd : gs.Pairwise fun f g => f.path ≠ g.path) (hl : gs.length ≤ 1048576) :
    Calls Tryd.prog 47 #[v, .func (.func 48) #[] #[]] w fun e w' => e = .returned (.tuple #[]) ∧ ∃ gs', gs'.Perm gs ∧ M.Rising gs' ∧ M.Own w' base 31 v gs' ∧ w.grownBy w' v.ownBlock := by
  have hin : Inhabited M.FileD := ⟨M.zeroF⟩
  obtain ⟨hlen, ⟨rfl, h0⟩ | ⟨g, cap, cur, rfl, hb, hh, hn, hc, hz, ht⟩⟩ := h
  · have hgs : gs = [] := List.length_eq_zero_iff.1 h0
    subst hgs
    refine (show Calls Tryd.prog 47 _ _ _ from AnyF.slices_SortFunc_none Tryd.laysSort none 0 _ w).mono ?_
    rintro e w' ⟨rfl, rfl⟩
    exact ⟨rfl, [], List.Perm.refl _, List.Pairwise.nil, ⟨rfl, .inl ⟨rfl, rfl⟩⟩, ⟨rfl, rfl, rfl, Nat.le_refl _, fun _ _ _ => rfl⟩⟩
  · have eg : ∀ args w, (callFunc 48 args).run Tryd.prog w = .ok (.enter 48 args) w := enters_of Tryd.func48 (by kernel_rfl) rfl
    have hcmp : CmpLays Tryd.prog 48 #[] M.fcells 5 M.cf g 0 gs.toArray.size w := fun m os dk _ x y => iCmp_any x y _
    have hcon := AnyQ.slices_SortFunc Tryd.laysSort 5 Tryd.isAgg31 Tryd.sizeOf31 M.fcells (fun _ => rfl) M.oneCellF M.cf M.swo 48 #[] g 0 cap gs.toArray w eg hcmp (M.holds_of hh hn hz ht) ((Array.getElem?_eq_some_iff.1 hh).1) (by simp; omega)
    refine (show Calls Tryd.prog 47 #[.slice (some ⟨g, 0, none⟩) gs.length cap, .func (.func 48) #[] #[]] w _ from hcon).mono ?_
    rintro e w' ⟨rfl, d', n, os, hp, hs, rfl⟩
    obtain ⟨hr, hperm⟩ := M.rising_of_sorted hp hs (by simpa using hd)
    have hlen' : d'.toList.length = gs.length := by simpa using hperm.length_eq
    have ho := M.own_sorted (base := base) (n := n) (os := os) hb hh (show d'.size ≤ cap by simp at hlen'; omega) hc hz
    refine ⟨rfl, d'.toList, by simpa using hperm, hr, ?_, ho.2⟩
    have := ho.1
    rwa [hlen'] at this
end Go.Proofs.YtbmbcfnlpbbapagDoor
