/-
  What PathRight of the program does: it tells whether a text is a path.
-/
import Derived.Test.YthiojdemcaaihaaGreatDoorPart2
import Derived.Test.YthiojdemcaaihaaGreatDoorShelf
import Derived.Test.YthiojdemcaaihaaGreatDoorPart1
import Derived.WalkKit
import Derived.WalkSpells
import Derived.WalkLawsBesides
namespace Go.Proofs.YthiojdemcaaihaaGreatDoor
open Go.RowKit

/-- The library's own bound lies where the program has laid it. -/
def M.ml (w : World) : Prop := ∃ m : Int, w.cell? ⟨1, 0, none⟩ = some (.int .i64 m)
theorem M.ml_below {w w' : World} (h : M.ml w) (hb : Below w.heap.size w w') : M.ml w' := by
  obtain ⟨m, hm⟩ := h
  have hlt : 1 < w.heap.size := World.block_lt_of_cell? w _ hm
  exact ⟨m, by rw [hb.cell (p := ⟨1, 0, none⟩) hlt]; exact hm⟩
theorem M.ml_open {w : World} (h : w.ShapedOpen Tryz.prog) : M.ml w := Tryz.laysM146.s1_3 w h

theorem iSplit_any (s : ByteArray) (w : World) (hs : s.size ≤ 100000) (hm : M.ml w) :
    Calls Tryz.prog 78 #[.string s, .string ⟨#[47]⟩] w fun e w' => e = .returned (.slice (some ⟨w.heap.size, 0, none⟩) (M.splitL 47 [] s.data.toList).length (M.splitL 47 [] s.data.toList).length) ∧
      (∀ i (hi : i < (M.splitL 47 [] s.data.toList).length), w'.cell? ⟨w.heap.size, i, none⟩ = some (.string ⟨((M.splitL 47 [] s.data.toList)[i]).toArray⟩)) ∧ Below w.heap.size w w' := by
  obtain ⟨m, hm⟩ := hm
  refine (Tryz.strings_Split s ⟨#[47]⟩ m w (by omega) hm (Nat.le_refl _)).mono ?_
  rintro e w' ⟨rfl, rfl⟩
  refine ⟨by rw [M.splitB_len], fun i hi => ?_, (Below.refl _ _).alloc (Nat.le_refl _) _⟩
  rw [M.splitB_eq]
  simp only [World.cell?, heap_alloc_new]
  simp [M.strs, hi]

set_option maxRecDepth 100000 in
set_option maxHeartbeats 3200000 in
theorem iPath_any (s : ByteArray) (w : World) (hs : s.size ≤ maxLen) (hm : M.ml w) :
    Calls Tryz.prog 60 #[.string s] w fun e w' => e = .returned (.bool (M.pathR s)) ∧ Below w.heap.size w w' := by
  unfold maxLen at hs
  by_cases hhi : 150 < s.size
  · have hE : Hid (M.pathR s = false) := M.pathR_long hhi
    clear hm
    go_enter Tryz.func60, Tryz.ntmps60
    go_wp2
    go_ret
    exact ⟨by rw [hE.out]; rfl, Below.refl _ _⟩
  have hS := iSplit_any s w (by omega) hm
  have hcnt := M.splitL_count 47 s.data.toList []
  rw [M.len_size] at hcnt
  have HLE : Hid (∀ p ∈ M.splitL 47 [] s.data.toList, p.length ≤ 150) := fun p hp => by
    have := M.splitL_le 47 s.data.toList [] p hp
    rw [M.len_size] at this; simp at this; omega
  have HBAD : Hid (∀ p ∈ M.splitL 47 [] s.data.toList, M.partR p = false → M.pathR s = false) := fun p hp h => M.pathR_bad hp h
  have HGOOD : Hid ((∀ p ∈ M.splitL 47 [] s.data.toList, M.partR p = true) → M.pathR s = true) := fun h => M.pathR_good (by omega) h
  clear hm
  generalize M.splitL 47 [] s.data.toList = parts at hS hcnt HLE HBAD HGOOD
  have HS : Hid (Calls Tryz.prog 78 #[.string s, .string ⟨#[47]⟩] w fun e w' => e = .returned (.slice (some ⟨w.heap.size, 0, none⟩) parts.length parts.length) ∧
      (∀ i (hi : i < parts.length), w'.cell? ⟨w.heap.size, i, none⟩ = some (.string ⟨(parts[i]).toArray⟩)) ∧ Below w.heap.size w w') := hS
  clear hS
  go_enter Tryz.func60, Tryz.ntmps60
  go_wp2_with fail
  refine HS.out.mono ?_
  rintro e w1 ⟨rfl, hcell, hbel⟩
  have HC : Hid (∀ i (hi : i < parts.length), w1.cell? ⟨w.heap.size, i, none⟩ = some (.string ⟨(parts[i]).toArray⟩)) := hcell
  have HB : Hid (Below w.heap.size w w1) := hbel
  clear hbel hcell
  go_wp2
  go_loop [11] (fun i => ∃ k : Nat, k ≤ parts.length ∧ i = .int .i64 k ∧ Hid (∀ j (h : j < parts.length), j < k → M.partR parts[j] = true)) (fun i => parts.length - (intOf i).toNat)
  case atStart => exact ⟨0, Nat.zero_le _, rfl, fun j _ hj => absurd hj (Nat.not_lt_zero _)⟩
  case round =>
    obtain ⟨k, hk, rfl, hall⟩ := hrel
    by_cases hlt : k < parts.length
    · have hc := HC.out k hlt
      have hmem : parts[k] ∈ parts := List.getElem_mem hlt
      have hle := HLE.out _ hmem
      have HBK : Hid (M.partR parts[k] = false → M.pathR s = false) := fun h => HBAD.out _ hmem h
      have HNX : Hid (M.partR parts[k] = true → ∀ j (h : j < parts.length), j < k + 1 → M.partR parts[j] = true) := fun hp j h hj => by
        by_cases e : j = k
        · subst e; exact hp
        · exact hall.out j h (by omega)
      clear hmem hall
      obtain ⟨q, hq⟩ : ∃ q : ByteArray, q = ⟨(parts[k]).toArray⟩ := ⟨_, rfl⟩
      have hqe : parts[k] = q.data.toList := by rw [hq]
      rw [← hq] at hc
      rw [hqe] at hle HBK HNX
      rw [M.len_size] at hle
      clear hq hqe
      have hP := fun W => iPart_any q W (by unfold maxLen; omega)
      cases hpq : M.partR q.data.toList
      · rw [hpq] at hP
        have hE : Hid (M.pathR s = false) := HBK.out hpq
        have HP : Hid (∀ W, Calls Tryz.prog 79 #[.string q] W fun e w' => e = .returned (.bool false) ∧ W = w') := hP
        clear hP hpq
        go_wp2_with fail
        refine (HP.out _).mono ?_
        rintro e w2 ⟨rfl, rfl⟩
        go_wp2
        go_ret
        exact ⟨by rw [hE.out]; rfl, HB.out⟩
      · rw [hpq] at hP
        have HN : Hid (∀ j (h : j < parts.length), j < k + 1 → M.partR parts[j] = true) := HNX.out hpq
        have HP : Hid (∀ W, Calls Tryz.prog 79 #[.string q] W fun e w' => e = .returned (.bool true) ∧ W = w') := hP
        clear hP hpq
        go_wp2_with fail
        refine (HP.out _).mono ?_
        rintro e w2 ⟨rfl, rfl⟩
        go_wp2
        go_round
        case rel => exact ⟨k + 1, by omega, by go_num, HN⟩
        case measure => simp [intOf]; omega
    · have hE : Hid (M.pathR s = true) := HGOOD.out (fun p hp => by
        obtain ⟨j, hj, rfl⟩ := List.getElem_of_mem hp
        exact hall.out j hj (by omega))
      go_wp2
      go_ret
      exact ⟨by rw [hE.out]; rfl, HB.out⟩
end Go.Proofs.YthiojdemcaaihaaGreatDoor

/-
  What l02File of the specification and fileRight of the program do: both tell whether a file is right.
-/
namespace Go.Proofs.YthiojdemcaaihaaGreatDoor
open Go.RowKit

theorem M.boxed {w w1 : World} {T : TypeId} {vs : Array Value} (hb : Below (w.alloc (.cells vs T)).heap.size (w.alloc (.cells vs T)) w1) (i : Nat) (v : Value) (h : vs[i]? = some v) : w1.cell? ⟨w.heap.size, i, none⟩ = some v := by
  rw [hb.cell (p := ⟨w.heap.size, i, none⟩) (by simp)]
  simp only [World.cell?, heap_alloc_new]
  simpa using h
theorem M.boxed_below {w w1 : World} {o : Obj} (hb : Below (w.alloc o).heap.size (w.alloc o) w1) : Below w.heap.size w w1 :=
  ((Below.refl _ w).alloc (Nat.le_refl _) o).trans (hb.mono (by simp))
theorem M.fileR_of {f : M.FileD} {b1 b2 b3 b4 b5 : Bool} (h1 : M.pathR f.path = b1) (h2 : decide (0 ≤ f.mode ∧ f.mode ≤ 4095) = b2) (h3 : decide (0 ≤ f.time ∧ f.time ≤ 1000000000) = b3) (h4 : decide (f.data.size ≤ 1200) = b4) (h5 : (!f.dir || decide (f.data.size = 0)) = b5) :
    M.fileR f = (b1 && b2 && b3 && b4 && b5) := by unfold M.fileR; rw [h1, h2, h3, h4, h5]
theorem M.empty_of {x : ByteArray} (h : x.size = 0) : x = ⟨#[]⟩ := by
  apply ByteArray.ext
  exact Array.eq_empty_of_size_eq_zero h
theorem M.not_empty {x : ByteArray} (h : ¬ x.size = 0) : (x.toList == []) = false := by
  rw [beq_eq_false_iff_ne]
  intro e
  apply h
  rw [Lib.size_eq, ← ByteArray.toList_eq, e]; rfl


set_option maxRecDepth 100000 in
set_option maxHeartbeats 3200000 in
theorem sFile_any (f : M.FileD) (w : World) (hok : M.fok f) :
    Calls Tryz.prog 24 #[M.fval f] w fun e w' => e = .returned (.bool (M.fileR f)) ∧ Below w.heap.size w w' := by
  obtain ⟨k1, k2, k3, k4, k5, k6⟩ := hok
  have hmu := M.fileR_of (f := f) rfl rfl rfl rfl rfl
  generalize M.fileR f = R at hmu ⊢
  obtain ⟨p, d, m, t, x⟩ := f
  simp only at k1 k2 k3 k4 k5 k6 hmu
  unfold M.fval
  simp only
  have kx : x.size ≤ 9223372036854775807 := by unfold maxLen at k2; omega
  have HP : Hid (∀ W, Below w.heap.size w W → Calls Tryz.prog 46 #[.string p] W fun e w' => e = .returned (.bool (M.pathR p)) ∧ Below W.heap.size W w') := fun W hW => sPath_any p W k1
  have HM : Hid (∀ W, Calls Tryz.prog 47 #[.int .i64 m, .int .i64 0, .int .i64 4095] W fun e w' => e = .returned (.bool (decide (0 ≤ m ∧ m ≤ 4095))) ∧ W = w') := fun W => sIs_any m 0 4095 W
  have HT : Hid (∀ W, Calls Tryz.prog 48 #[.int .i64 t] W fun e w' => e = .returned (.bool (decide (0 ≤ t ∧ t ≤ 1000000000))) ∧ W = w') := fun W => sTime_any t W
  clear k1 k2
  generalize M.pathR p = b1 at HP hmu
  generalize hb2 : decide (0 ≤ m ∧ m ≤ 4095) = b2 at hmu HM
  generalize decide (0 ≤ t ∧ t ≤ 1000000000) = b3 at hmu HT
  have HU : Hid (R = (b1 && b2 && b3 && decide (x.size ≤ 1200) && (!d || decide (x.size = 0)))) := hmu
  clear hmu
  clear hb2
  cases b1
  case false =>
    have hR0 : R = false := by have := HU.out; simpa using this
    have hR : Hid (R = false) := hR0
    clear HU hR0
    go_enter Tryz.func24, Tryz.ntmps24
    go_wp2_with fail
    refine (HP.out _ ((Below.refl _ w).alloc (Nat.le_refl _) _)).mono ?_
    rintro e w1 ⟨rfl, hb⟩
    have g0 := M.boxed hb 0 _ rfl
    have g1 := M.boxed hb 1 _ rfl
    have g2 := M.boxed hb 2 _ rfl
    have g3 := M.boxed hb 3 _ rfl
    have g4 := M.boxed hb 4 _ rfl
    have B1 : Hid (Below w.heap.size w w1) := M.boxed_below hb
    clear hb
    go_wp2_with (first | (go_at_call 47; refine (HM.out _).mono ?_; rintro e w2 ⟨rfl, rfl⟩) | (go_at_call 48; refine (HT.out _).mono ?_; rintro e w3 ⟨rfl, rfl⟩))
    go_ret
    exact ⟨by first | rfl | (rw [hR.out]; rfl), B1.out⟩
  cases b2
  case false =>
    have hR0 : R = false := by have := HU.out; simpa using this
    have hR : Hid (R = false) := hR0
    clear HU hR0
    go_enter Tryz.func24, Tryz.ntmps24
    go_wp2_with fail
    refine (HP.out _ ((Below.refl _ w).alloc (Nat.le_refl _) _)).mono ?_
    rintro e w1 ⟨rfl, hb⟩
    have g0 := M.boxed hb 0 _ rfl
    have g1 := M.boxed hb 1 _ rfl
    have g2 := M.boxed hb 2 _ rfl
    have g3 := M.boxed hb 3 _ rfl
    have g4 := M.boxed hb 4 _ rfl
    have B1 : Hid (Below w.heap.size w w1) := M.boxed_below hb
    clear hb
    go_wp2_with (first | (go_at_call 47; refine (HM.out _).mono ?_; rintro e w2 ⟨rfl, rfl⟩) | (go_at_call 48; refine (HT.out _).mono ?_; rintro e w3 ⟨rfl, rfl⟩))
    go_ret
    exact ⟨by first | rfl | (rw [hR.out]; rfl), B1.out⟩
  cases b3
  case false =>
    have hR0 : R = false := by have := HU.out; simpa using this
    have hR : Hid (R = false) := hR0
    clear HU hR0
    go_enter Tryz.func24, Tryz.ntmps24
    go_wp2_with fail
    refine (HP.out _ ((Below.refl _ w).alloc (Nat.le_refl _) _)).mono ?_
    rintro e w1 ⟨rfl, hb⟩
    have g0 := M.boxed hb 0 _ rfl
    have g1 := M.boxed hb 1 _ rfl
    have g2 := M.boxed hb 2 _ rfl
    have g3 := M.boxed hb 3 _ rfl
    have g4 := M.boxed hb 4 _ rfl
    have B1 : Hid (Below w.heap.size w w1) := M.boxed_below hb
    clear hb
    go_wp2_with (first | (go_at_call 47; refine (HM.out _).mono ?_; rintro e w2 ⟨rfl, rfl⟩) | (go_at_call 48; refine (HT.out _).mono ?_; rintro e w3 ⟨rfl, rfl⟩))
    go_ret
    exact ⟨by first | rfl | (rw [hR.out]; rfl), B1.out⟩
  by_cases h4 : 1200 < x.size
  ·
    have hR0 : R = false := by have := HU.out; simpa [show ¬ x.size ≤ 1200 by omega] using this
    have hR : Hid (R = false) := hR0
    clear HU hR0
    have d4 : decide ((x.size : Int) ≤ 1200) = false := decide_eq_false (by omega)
    go_enter Tryz.func24, Tryz.ntmps24
    go_wp2_with fail
    refine (HP.out _ ((Below.refl _ w).alloc (Nat.le_refl _) _)).mono ?_
    rintro e w1 ⟨rfl, hb⟩
    have g0 := M.boxed hb 0 _ rfl
    have g1 := M.boxed hb 1 _ rfl
    have g2 := M.boxed hb 2 _ rfl
    have g3 := M.boxed hb 3 _ rfl
    have g4 := M.boxed hb 4 _ rfl
    have B1 : Hid (Below w.heap.size w w1) := M.boxed_below hb
    clear hb
    go_wp2_with (first | (go_at_call 47; refine (HM.out _).mono ?_; rintro e w2 ⟨rfl, rfl⟩) | (go_at_call 48; refine (HT.out _).mono ?_; rintro e w3 ⟨rfl, rfl⟩))
    go_ret
    exact ⟨by first | rfl | (rw [hR.out]; rfl), B1.out⟩
  have d4 : decide ((x.size : Int) ≤ 1200) = true := decide_eq_true (by omega)
  cases d
  case false =>
    have hR0 : R = true := by have := HU.out; simpa [show x.size ≤ 1200 by omega] using this
    have hR : Hid (R = true) := hR0
    clear HU hR0
    go_enter Tryz.func24, Tryz.ntmps24
    go_wp2_with fail
    refine (HP.out _ ((Below.refl _ w).alloc (Nat.le_refl _) _)).mono ?_
    rintro e w1 ⟨rfl, hb⟩
    have g0 := M.boxed hb 0 _ rfl
    have g1 := M.boxed hb 1 _ rfl
    have g2 := M.boxed hb 2 _ rfl
    have g3 := M.boxed hb 3 _ rfl
    have g4 := M.boxed hb 4 _ rfl
    have B1 : Hid (Below w.heap.size w w1) := M.boxed_below hb
    clear hb
    go_wp2_with (first | (go_at_call 47; refine (HM.out _).mono ?_; rintro e w2 ⟨rfl, rfl⟩) | (go_at_call 48; refine (HT.out _).mono ?_; rintro e w3 ⟨rfl, rfl⟩))
    go_ret
    exact ⟨by first | rfl | (rw [hR.out]; rfl), B1.out⟩
  by_cases h5 : x.size = 0
  ·
    have hR0 : R = true := by have := HU.out; simpa [h5] using this
    have hR : Hid (R = true) := hR0
    clear HU hR0
    obtain rfl := M.empty_of h5
    clear h5
    go_enter Tryz.func24, Tryz.ntmps24
    go_wp2_with fail
    refine (HP.out _ ((Below.refl _ w).alloc (Nat.le_refl _) _)).mono ?_
    rintro e w1 ⟨rfl, hb⟩
    have g0 := M.boxed hb 0 _ rfl
    have g1 := M.boxed hb 1 _ rfl
    have g2 := M.boxed hb 2 _ rfl
    have g3 := M.boxed hb 3 _ rfl
    have g4 := M.boxed hb 4 _ rfl
    have B1 : Hid (Below w.heap.size w w1) := M.boxed_below hb
    clear hb
    go_wp2_with (first | (go_at_call 47; refine (HM.out _).mono ?_; rintro e w2 ⟨rfl, rfl⟩) | (go_at_call 48; refine (HT.out _).mono ?_; rintro e w3 ⟨rfl, rfl⟩))
    go_ret
    exact ⟨by first | rfl | (rw [hR.out]; rfl), B1.out⟩
  ·
    have hR0 : R = false := by have := HU.out; simpa [h5] using this
    have hR : Hid (R = false) := hR0
    clear HU hR0
    have d5 := M.not_empty h5
    go_enter Tryz.func24, Tryz.ntmps24
    go_wp2_with fail
    refine (HP.out _ ((Below.refl _ w).alloc (Nat.le_refl _) _)).mono ?_
    rintro e w1 ⟨rfl, hb⟩
    have g0 := M.boxed hb 0 _ rfl
    have g1 := M.boxed hb 1 _ rfl
    have g2 := M.boxed hb 2 _ rfl
    have g3 := M.boxed hb 3 _ rfl
    have g4 := M.boxed hb 4 _ rfl
    have B1 : Hid (Below w.heap.size w w1) := M.boxed_below hb
    clear hb
    go_wp2_with (first | (go_at_call 47; refine (HM.out _).mono ?_; rintro e w2 ⟨rfl, rfl⟩) | (go_at_call 48; refine (HT.out _).mono ?_; rintro e w3 ⟨rfl, rfl⟩))
    go_ret
    exact ⟨by first | rfl | (rw [hR.out]; rfl), B1.out⟩

set_option maxRecDepth 100000 in
set_option maxHeartbeats 3200000 in
theorem iFile_any (f : M.FileD) (w : World) (hok : M.fok f) (hm : M.ml w) :
    Calls Tryz.prog 41 #[M.fval f] w fun e w' => e = .returned (.bool (M.fileR f)) ∧ Below w.heap.size w w' := by
  obtain ⟨k1, k2, k3, k4, k5, k6⟩ := hok
  have hmu := M.fileR_of (f := f) rfl rfl rfl rfl rfl
  generalize M.fileR f = R at hmu ⊢
  obtain ⟨p, d, m, t, x⟩ := f
  simp only at k1 k2 k3 k4 k5 k6 hmu
  unfold M.fval
  simp only
  have kx : x.size ≤ 9223372036854775807 := by unfold maxLen at k2; omega
  have HP : Hid (∀ W, Below w.heap.size w W → Calls Tryz.prog 60 #[.string p] W fun e w' => e = .returned (.bool (M.pathR p)) ∧ Below W.heap.size W w') := fun W hW => iPath_any p W k1 (M.ml_below hm hW)
  have HT : Hid (∀ W, Calls Tryz.prog 61 #[.int .i64 t] W fun e w' => e = .returned (.bool (decide (0 ≤ t ∧ t ≤ 1000000000))) ∧ W = w') := fun W => iTime_any t W
  clear hm
  clear k1 k2
  generalize M.pathR p = b1 at HP hmu
  generalize hb2 : decide (0 ≤ m ∧ m ≤ 4095) = b2 at hmu
  generalize decide (0 ≤ t ∧ t ≤ 1000000000) = b3 at hmu HT
  have HU : Hid (R = (b1 && b2 && b3 && decide (x.size ≤ 1200) && (!d || decide (x.size = 0)))) := hmu
  clear hmu
  cases b1
  case false =>
    have hR0 : R = false := by have := HU.out; simpa using this
    have hR : Hid (R = false) := hR0
    clear HU hR0
    clear hb2
    go_enter Tryz.func41, Tryz.ntmps41
    go_wp2_with fail
    refine (HP.out _ ((Below.refl _ w).alloc (Nat.le_refl _) _)).mono ?_
    rintro e w1 ⟨rfl, hb⟩
    have g0 := M.boxed hb 0 _ rfl
    have g1 := M.boxed hb 1 _ rfl
    have g2 := M.boxed hb 2 _ rfl
    have g3 := M.boxed hb 3 _ rfl
    have g4 := M.boxed hb 4 _ rfl
    have B1 : Hid (Below w.heap.size w w1) := M.boxed_below hb
    clear hb
    go_wp2_with (go_at_call 61; refine (HT.out _).mono ?_; rintro e w3 ⟨rfl, rfl⟩)
    go_ret
    exact ⟨by first | rfl | (rw [hR.out]; rfl), B1.out⟩
  by_cases m1 : m < 0
  · obtain rfl : b2 = false := by rw [← hb2]; exact decide_eq_false (by omega)
    have hR0 : R = false := by have := HU.out; simpa using this
    have hR : Hid (R = false) := hR0
    clear HU hR0
    clear hb2
    have e1 : decide (m < 0) = true := decide_eq_true m1
    go_enter Tryz.func41, Tryz.ntmps41
    go_wp2_with fail
    refine (HP.out _ ((Below.refl _ w).alloc (Nat.le_refl _) _)).mono ?_
    rintro e w1 ⟨rfl, hb⟩
    have g0 := M.boxed hb 0 _ rfl
    have g1 := M.boxed hb 1 _ rfl
    have g2 := M.boxed hb 2 _ rfl
    have g3 := M.boxed hb 3 _ rfl
    have g4 := M.boxed hb 4 _ rfl
    have B1 : Hid (Below w.heap.size w w1) := M.boxed_below hb
    clear hb
    go_wp2_with (go_at_call 61; refine (HT.out _).mono ?_; rintro e w3 ⟨rfl, rfl⟩)
    go_ret
    exact ⟨by first | rfl | (rw [hR.out]; rfl), B1.out⟩
  have e1 : decide (m < 0) = false := decide_eq_false m1
  by_cases m2 : 4095 < m
  · obtain rfl : b2 = false := by rw [← hb2]; exact decide_eq_false (by omega)
    have hR0 : R = false := by have := HU.out; simpa using this
    have hR : Hid (R = false) := hR0
    clear HU hR0
    clear hb2
    have e2 : decide (4095 < m) = true := decide_eq_true m2
    go_enter Tryz.func41, Tryz.ntmps41
    go_wp2_with fail
    refine (HP.out _ ((Below.refl _ w).alloc (Nat.le_refl _) _)).mono ?_
    rintro e w1 ⟨rfl, hb⟩
    have g0 := M.boxed hb 0 _ rfl
    have g1 := M.boxed hb 1 _ rfl
    have g2 := M.boxed hb 2 _ rfl
    have g3 := M.boxed hb 3 _ rfl
    have g4 := M.boxed hb 4 _ rfl
    have B1 : Hid (Below w.heap.size w w1) := M.boxed_below hb
    clear hb
    go_wp2_with (go_at_call 61; refine (HT.out _).mono ?_; rintro e w3 ⟨rfl, rfl⟩)
    go_ret
    exact ⟨by first | rfl | (rw [hR.out]; rfl), B1.out⟩
  have e2 : decide (4095 < m) = false := decide_eq_false m2
  obtain rfl : b2 = true := by rw [← hb2]; exact decide_eq_true (by omega)
  clear hb2
  cases b3
  case false =>
    have hR0 : R = false := by have := HU.out; simpa using this
    have hR : Hid (R = false) := hR0
    clear HU hR0
    go_enter Tryz.func41, Tryz.ntmps41
    go_wp2_with fail
    refine (HP.out _ ((Below.refl _ w).alloc (Nat.le_refl _) _)).mono ?_
    rintro e w1 ⟨rfl, hb⟩
    have g0 := M.boxed hb 0 _ rfl
    have g1 := M.boxed hb 1 _ rfl
    have g2 := M.boxed hb 2 _ rfl
    have g3 := M.boxed hb 3 _ rfl
    have g4 := M.boxed hb 4 _ rfl
    have B1 : Hid (Below w.heap.size w w1) := M.boxed_below hb
    clear hb
    go_wp2_with (go_at_call 61; refine (HT.out _).mono ?_; rintro e w3 ⟨rfl, rfl⟩)
    go_ret
    exact ⟨by first | rfl | (rw [hR.out]; rfl), B1.out⟩
  cases d
  case false =>
    by_cases h4 : 1200 < x.size
    ·
      have hR0 : R = false := by have := HU.out; simpa [show ¬ x.size ≤ 1200 by omega] using this
      have hR : Hid (R = false) := hR0
      clear HU hR0
      have d4 : decide ((x.size : Int) ≤ 1200) = false := decide_eq_false (by omega)
      go_enter Tryz.func41, Tryz.ntmps41
      go_wp2_with fail
      refine (HP.out _ ((Below.refl _ w).alloc (Nat.le_refl _) _)).mono ?_
      rintro e w1 ⟨rfl, hb⟩
      have g0 := M.boxed hb 0 _ rfl
      have g1 := M.boxed hb 1 _ rfl
      have g2 := M.boxed hb 2 _ rfl
      have g3 := M.boxed hb 3 _ rfl
      have g4 := M.boxed hb 4 _ rfl
      have B1 : Hid (Below w.heap.size w w1) := M.boxed_below hb
      clear hb
      go_wp2_with (go_at_call 61; refine (HT.out _).mono ?_; rintro e w3 ⟨rfl, rfl⟩)
      go_ret
      exact ⟨by first | rfl | (rw [hR.out]; rfl), B1.out⟩
    ·
      have hR0 : R = true := by have := HU.out; simpa [show x.size ≤ 1200 by omega] using this
      have hR : Hid (R = true) := hR0
      clear HU hR0
      have d4 : decide ((x.size : Int) ≤ 1200) = true := decide_eq_true (by omega)
      go_enter Tryz.func41, Tryz.ntmps41
      go_wp2_with fail
      refine (HP.out _ ((Below.refl _ w).alloc (Nat.le_refl _) _)).mono ?_
      rintro e w1 ⟨rfl, hb⟩
      have g0 := M.boxed hb 0 _ rfl
      have g1 := M.boxed hb 1 _ rfl
      have g2 := M.boxed hb 2 _ rfl
      have g3 := M.boxed hb 3 _ rfl
      have g4 := M.boxed hb 4 _ rfl
      have B1 : Hid (Below w.heap.size w w1) := M.boxed_below hb
      clear hb
      go_wp2_with (go_at_call 61; refine (HT.out _).mono ?_; rintro e w3 ⟨rfl, rfl⟩)
      go_ret
      exact ⟨by first | rfl | (rw [hR.out]; rfl), B1.out⟩
  by_cases h5 : x.size = 0
  ·
    have hR0 : R = true := by have := HU.out; simpa [h5] using this
    have hR : Hid (R = true) := hR0
    clear HU hR0
    obtain rfl := M.empty_of h5
    clear h5
    go_enter Tryz.func41, Tryz.ntmps41
    go_wp2_with fail
    refine (HP.out _ ((Below.refl _ w).alloc (Nat.le_refl _) _)).mono ?_
    rintro e w1 ⟨rfl, hb⟩
    have g0 := M.boxed hb 0 _ rfl
    have g1 := M.boxed hb 1 _ rfl
    have g2 := M.boxed hb 2 _ rfl
    have g3 := M.boxed hb 3 _ rfl
    have g4 := M.boxed hb 4 _ rfl
    have B1 : Hid (Below w.heap.size w w1) := M.boxed_below hb
    clear hb
    go_wp2_with (go_at_call 61; refine (HT.out _).mono ?_; rintro e w3 ⟨rfl, rfl⟩)
    go_ret
    exact ⟨by first | rfl | (rw [hR.out]; rfl), B1.out⟩
  ·
    have hR0 : R = false := by have := HU.out; simpa [h5] using this
    have hR : Hid (R = false) := hR0
    clear HU hR0
    have d5 := M.not_empty h5
    go_enter Tryz.func41, Tryz.ntmps41
    go_wp2_with fail
    refine (HP.out _ ((Below.refl _ w).alloc (Nat.le_refl _) _)).mono ?_
    rintro e w1 ⟨rfl, hb⟩
    have g0 := M.boxed hb 0 _ rfl
    have g1 := M.boxed hb 1 _ rfl
    have g2 := M.boxed hb 2 _ rfl
    have g3 := M.boxed hb 3 _ rfl
    have g4 := M.boxed hb 4 _ rfl
    have B1 : Hid (Below w.heap.size w w1) := M.boxed_below hb
    clear hb
    go_wp2_with (go_at_call 61; refine (HT.out _).mono ?_; rintro e w3 ⟨rfl, rfl⟩)
    go_ret
    exact ⟨by first | rfl | (rw [hR.out]; rfl), B1.out⟩
end Go.Proofs.YthiojdemcaaihaaGreatDoor
