/-
  What PathRight of the program does: it tells whether a text is a path.
-/
import Derived.Test.YtephjmlcbpfnaaaGreatDoorPart8
import Derived.Test.YtephjmlcbpfnaaaGreatDoorShelf
import Derived.WalkKit
import Derived.WalkSpells
import Derived.WalkLawsBesides
namespace Go.Proofs.YtephjmlcbpfnaaaGreatDoor
open Go.RowKit

/-- The library's own bound lies where the program has laid it. -/
def M.ml (w : World) : Prop := ∃ m : Int, w.cell? ⟨0, 0, none⟩ = some (.int .i64 m)
theorem M.ml_below {w w' : World} (h : M.ml w) (hb : Below w.heap.size w w') : M.ml w' := by
  obtain ⟨m, hm⟩ := h
  have hlt : 0 < w.heap.size := World.block_lt_of_cell? w _ hm
  exact ⟨m, by rw [hb.cell (p := ⟨0, 0, none⟩) hlt]; exact hm⟩
theorem M.ml_open {w : World} (h : w.ShapedOpen Tryz.prog) : M.ml w := Tryz.laysM146.s1_3 w h

theorem iSplit_any (s : ByteArray) (w : World) (hs : s.size ≤ 100000) (hm : M.ml w) :
    Calls Tryz.prog 126 #[.string s, .string ⟨#[47]⟩] w fun e w' => e = .returned (.slice (some ⟨w.heap.size, 0, none⟩) (M.splitL 47 [] s.data.toList).length (M.splitL 47 [] s.data.toList).length) ∧
      (∀ i (hi : i < (M.splitL 47 [] s.data.toList).length), w'.cell? ⟨w.heap.size, i, none⟩ = some (.string ⟨((M.splitL 47 [] s.data.toList)[i]).toArray⟩)) ∧ Below w.heap.size w w' := by
  obtain ⟨m, hm⟩ := hm
  refine (Tryz.strings_Split s ⟨#[47]⟩ m w (by omega) hm (Nat.le_refl _)).mono ?_
  rintro e w' ⟨rfl, rfl⟩
  refine ⟨by rw [M.splitB_len], fun i hi => ?_, (Below.refl _ _).alloc (Nat.le_refl _) _⟩
  rw [M.splitB_eq]
  simp only [World.cell?, heap_alloc_new]
  simp [M.strs, hi]

set_option maxRecDepth 100000 in
set_option maxHeartbeats 3200000 in
theorem iPath_any (s : ByteArray) (w : World) (hs : s.size ≤ maxLen) (hm : M.ml w) :
    Calls Tryz.prog 87 #[.string s] w fun e w' => e = .returned (.bool (M.pathR s)) ∧ Below w.heap.size w w' := by
  unfold maxLen at hs
  by_cases hhi : 150 < s.size
  · have hE : Hid (M.pathR s = false) := M.pathR_long hhi
    clear hm
    go_enter Tryz.func87, Tryz.ntmps87
    go_wp2
    go_ret
    exact ⟨by rw [hE.out]; rfl, Below.refl _ _⟩
  have hS := iSplit_any s w (by omega) hm
  have hcnt := M.splitL_count 47 s.data.toList []
  rw [M.len_size] at hcnt
  have HLE : Hid (∀ p ∈ M.splitL 47 [] s.data.toList, p.length ≤ 150) := fun p hp => by
    have := M.splitL_le 47 s.data.toList [] p hp
    rw [M.len_size] at this; simp at this; omega
  have HBAD : Hid (∀ p ∈ M.splitL 47 [] s.data.toList, M.partR p = false → M.pathR s = false) := fun p hp h => M.pathR_bad hp h
  have HGOOD : Hid ((∀ p ∈ M.splitL 47 [] s.data.toList, M.partR p = true) → M.pathR s = true) := fun h => M.pathR_good (by omega) h
  clear hm
  generalize M.splitL 47 [] s.data.toList = parts at hS hcnt HLE HBAD HGOOD
  have HS : Hid (Calls Tryz.prog 126 #[.string s, .string ⟨#[47]⟩] w fun e w' => e = .returned (.slice (some ⟨w.heap.size, 0, none⟩) parts.length parts.length) ∧
      (∀ i (hi : i < parts.length), w'.cell? ⟨w.heap.size, i, none⟩ = some (.string ⟨(parts[i]).toArray⟩)) ∧ Below w.heap.size w w') := hS
  clear hS
  go_enter Tryz.func87, Tryz.ntmps87
  go_wp2_with fail
  refine HS.out.mono ?_
  rintro e w1 ⟨rfl, hcell, hbel⟩
  have HC : Hid (∀ i (hi : i < parts.length), w1.cell? ⟨w.heap.size, i, none⟩ = some (.string ⟨(parts[i]).toArray⟩)) := hcell
  have HB : Hid (Below w.heap.size w w1) := hbel
  clear hbel hcell
  go_wp2
  go_loop [11] (fun i => ∃ k : Nat, k ≤ parts.length ∧ i = .int .i64 k ∧ Hid (∀ j (h : j < parts.length), j < k → M.partR parts[j] = true)) (fun i => parts.length - (intOf i).toNat)
  case atStart => exact ⟨0, Nat.zero_le _, rfl, fun j _ hj => absurd hj (Nat.not_lt_zero _)⟩
  case round =>
    obtain ⟨k, hk, rfl, hall⟩ := hrel
    by_cases hlt : k < parts.length
    · have hc := HC.out k hlt
      have hmem : parts[k] ∈ parts := List.getElem_mem hlt
      have hle := HLE.out _ hmem
      have HBK : Hid (M.partR parts[k] = false → M.pathR s = false) := fun h => HBAD.out _ hmem h
      have HNX : Hid (M.partR parts[k] = true → ∀ j (h : j < parts.length), j < k + 1 → M.partR parts[j] = true) := fun hp j h hj => by
        by_cases e : j = k
        · subst e; exact hp
        · exact hall.out j h (by omega)
      clear hmem hall
      obtain ⟨q, hq⟩ : ∃ q : ByteArray, q = ⟨(parts[k]).toArray⟩ := ⟨_, rfl⟩
      have hqe : parts[k] = q.data.toList := by rw [hq]
      rw [← hq] at hc
      rw [hqe] at hle HBK HNX
      rw [M.len_size] at hle
      clear hq hqe
      have hP := fun W => iPart_any q W (by unfold maxLen; omega)
      cases hpq : M.partR q.data.toList
      · rw [hpq] at hP
        have hE : Hid (M.pathR s = false) := HBK.out hpq
        have HP : Hid (∀ W, Calls Tryz.prog 127 #[.string q] W fun e w' => e = .returned (.bool false) ∧ W = w') := hP
        clear hP hpq
        go_wp2_with fail
        refine (HP.out _).mono ?_
        rintro e w2 ⟨rfl, rfl⟩
        go_wp2
        go_ret
        exact ⟨by rw [hE.out]; rfl, HB.out⟩
      · rw [hpq] at hP
        have HN : Hid (∀ j (h : j < parts.length), j < k + 1 → M.partR parts[j] = true) := HNX.out hpq
        have HP : Hid (∀ W, Calls Tryz.prog 127 #[.string q] W fun e w' => e = .returned (.bool true) ∧ W = w') := hP
        clear hP hpq
        go_wp2_with fail
        refine (HP.out _).mono ?_
        rintro e w2 ⟨rfl, rfl⟩
        go_wp2
        go_round
        case rel => exact ⟨k + 1, by omega, by go_num, HN⟩
        case measure => simp [intOf]; omega
    · have hE : Hid (M.pathR s = true) := HGOOD.out (fun p hp => by
        obtain ⟨j, hj, rfl⟩ := List.getElem_of_mem hp
        exact hall.out j hj (by omega))
      go_wp2
      go_ret
      exact ⟨by rw [hE.out]; rfl, HB.out⟩
end Go.Proofs.YtephjmlcbpfnaaaGreatDoor
