/-
  For every text the law of Unpack returns true.
-/
import Derived.Test.YthiojdemcaaihaaGreatDoorIUnpack
import Derived.Test.YthiojdemcaaihaaGreatDoorPart16
namespace Go.Proofs.YthiojdemcaaihaaGreatDoor
open Go.RowKit

/-- What Unpack tells of whatever text. -/
def M.outX (t : ByteArray) : Int × Nat × List M.FileD := if 20000 < t.size then (2, 0, []) else M.outL M.recS t.data.toList
theorem sUnpack_all (t : ByteArray) (w : World) (hs : t.size ≤ maxLen) : Calls Tryz.prog 4 #[.string t] w fun e w' => M.PaxIs w' e (M.outX t) ∧ Below w.heap.size w w' := by
  unfold M.outX
  by_cases h : 20000 < t.size
  · rw [if_pos h]
    exact (sUnpack_long t w hs h).mono fun e w' hh => ⟨by rw [hh.1]; exact M.paxIll w' 2 0, hh.2⟩
  · rw [if_neg h]
    exact sUnpack_any t w (by omega)
theorem iUnpack_all (t : ByteArray) (w : World) (hs : t.size ≤ maxLen) (hm : M.ml w) (hw : M.pw w) (htz : M.tz w) (hg : M.errT w) : Calls Tryz.prog 5 #[.string t] w fun e w' => M.PaxOwn w' w.heap.size e (M.outX t) ∧ Below w.heap.size w w' := by
  unfold M.outX
  by_cases h : 20000 < t.size
  · rw [if_pos h]
    exact (iUnpack_long t w hs h).mono fun e w' hh => ⟨by rw [hh.1]; exact M.paxIllO w' _ 2 0, hh.2⟩
  · rw [if_neg h, ← M.outL_eq M.recI_ok M.recS_ok]
    exact iUnpack_any t w (by omega) hm hw htz hg

set_option maxRecDepth 100000 in
set_option maxHeartbeats 800000 in
theorem eqPax_any (w : World) (base : Nat) (v : Value) (a : Option Addr) (cap : Nat) (x y : Int) (gs : List M.FileD) (h1 : M.Own w base 36 v gs) (h2 : M.Files w a gs.length cap gs) :
    Calls Tryz.prog 6 #[.agg #[v, .int .i64 x, .int .i64 y], .agg #[.slice a gs.length cap, .int .i64 x, .int .i64 y]] w fun e w' => e = .returned (.bool true) ∧ Below w.heap.size w w' := by
  obtain ⟨a1, c1, rfl, f1⟩ := h1.files
  have HB : Hid (∀ o1 o2, Below w.heap.size w ((w.alloc o1).alloc o2)) := fun o1 o2 => ((Below.refl _ _).alloc (Nat.le_refl _) _).alloc (by simp) _
  have HC : Hid (∀ o1 o2, Calls Tryz.prog 21 #[.slice a1 gs.length c1, .slice a gs.length cap] ((w.alloc o1).alloc o2) fun e w' => e = .returned (.bool true) ∧ Below ((w.alloc o1).alloc o2).heap.size ((w.alloc o1).alloc o2) w') := fun o1 o2 =>
    (eqFileS_any _ a1 a _ c1 _ cap gs gs (f1.below (HB.out o1 o2)) (h2.below (HB.out o1 o2))).mono (by rintro e w' ⟨u, rfl, hu, hb⟩; exact ⟨by rw [hu.2 rfl], hb⟩)
  clear h1 h2 f1
  have n1 : (x == x) = true := by simp
  have n2 : (y == y) = true := by simp
  go_enter Tryz.func6, Tryz.ntmps6
  go_wp2_with fail
  refine (HC.out _ _).mono ?_
  rintro e w1 ⟨rfl, hb1⟩
  have k1 : w1.cell? ⟨w.heap.size, 1, none⟩ = some (.int .i64 x) := by rw [hb1.cell (p := ⟨w.heap.size, 1, none⟩) (by simp; omega), World.cell?_alloc_lt _ _ _ (by simp)]; simp
  have k2 : w1.cell? ⟨w.heap.size, 2, none⟩ = some (.int .i64 y) := by rw [hb1.cell (p := ⟨w.heap.size, 2, none⟩) (by simp; omega), World.cell?_alloc_lt _ _ _ (by simp)]; simp
  have m1 : w1.cell? ⟨w.heap.size + 1, 1, none⟩ = some (.int .i64 x) := by rw [hb1.cell (p := ⟨w.heap.size + 1, 1, none⟩) (by simp), World.cell?_alloc_at _ _ _ _ (by simp)]; rfl
  have m2 : w1.cell? ⟨w.heap.size + 1, 2, none⟩ = some (.int .i64 y) := by rw [hb1.cell (p := ⟨w.heap.size + 1, 2, none⟩) (by simp), World.cell?_alloc_at _ _ _ _ (by simp)]; rfl
  have B1 : Hid (Below w.heap.size w w1) := (HB.out _ _).trans (hb1.mono (HB.out _ _).size)
  clear hb1
  go_wp2
  go_ret
  exact ⟨rfl, B1.out⟩

set_option maxRecDepth 100000 in
set_option maxHeartbeats 800000 in
theorem markPax_any (w : World) (base : Nat) (v x y : Value) (gs : List M.FileD) (h : M.Own w base 36 v gs) (hl : gs.length ≤ 1000) :
    Calls Tryz.prog 7 #[.agg #[v, x, y], .int .i64 1] w fun e w' => e = .returned (.int .i64 ((1 + 5 * gs.length : Nat) : Int)) ∧ M.Own w' base 36 v (M.marks gs.length 1) ∧ w.grownBy w' v.ownBlock := by
  have HC : Hid (∀ o, Calls Tryz.prog 22 #[v, .int .i64 1] (w.alloc o) fun e w' => e = .returned (.int .i64 ((1 + 5 * gs.length : Nat) : Int)) ∧ M.Own w' base 36 v (M.marks gs.length 1) ∧ (w.alloc o).grownBy w' v.ownBlock) := fun o => mark_own (w.alloc o) base v gs 1 (h.below ((Below.refl _ _).alloc (Nat.le_refl _) _)) (by omega) (by omega) (by omega)
  clear h
  generalize 1 + 5 * gs.length = mm at *
  go_enter Tryz.func7, Tryz.ntmps7
  go_wp2_with fail
  refine (HC.out _).mono ?_
  rintro e w1 ⟨rfl, ho, hg⟩
  have HO : Hid (M.Own w1 base 36 v (M.marks gs.length 1) ∧ w.grownBy w1 v.ownBlock) := ⟨ho, ((World.grownBy_alloc w _ none).but _).trans hg⟩
  clear ho hg
  go_wp2
  go_ret
  exact ⟨rfl, HO.out.1, HO.out.2⟩

set_option maxRecDepth 100000 in
set_option maxHeartbeats 800000 in
theorem heldPax_any (w : World) (base : Nat) (v x y : Value) (n : Nat) (h : M.Own w base 36 v (M.marks n 1)) (hl : n ≤ 1000) :
    Calls Tryz.prog 8 #[.agg #[v, x, y], .int .i64 1] w fun e w' => e = .returned (.int .i64 ((1 + 5 * n : Nat) : Int)) ∧ Below w.heap.size w w' := by
  have HC : Hid (∀ o, Calls Tryz.prog 23 #[v, .int .i64 1] (w.alloc o) fun e w' => e = .returned (.int .i64 ((1 + 5 * n : Nat) : Int)) ∧ Below (w.alloc o).heap.size (w.alloc o) w') := fun o => held_own (w.alloc o) base v n 1 (h.below ((Below.refl _ _).alloc (Nat.le_refl _) _)) (by omega) (by omega) (by omega)
  clear h
  generalize 1 + 5 * n = mm at *
  go_enter Tryz.func8, Tryz.ntmps8
  go_wp2_with fail
  refine (HC.out _).mono ?_
  rintro e w1 ⟨rfl, hb⟩
  have HB : Hid (Below w.heap.size w w1) := M.boxed_below hb
  clear hb
  go_wp2
  go_ret
  exact ⟨rfl, HB.out⟩
/-- How many files Unpack tells. -/
theorem M.outL_len (p : List UInt8 → List UInt8) (t : List UInt8) : (M.outL p t).2.2.length ≤ 20 := by
  unfold M.outL
  cases h : M.readL p t (M.fuelL t) 0 ⟨[], []⟩ with
  | inl ca => exact Nat.zero_le _
  | inr fs =>
    show (if (M.packB fs).data.toList = t then ((0 : Int), 0, fs) else (3, 0, [])).2.2.length ≤ 20
    by_cases hp : (M.packB fs).data.toList = t
    · rw [if_pos hp]
      show fs.length ≤ 20
      apply Decidable.byContradiction
      intro hc
      have e : M.packB fs = ⟨#[]⟩ := by unfold M.packB; rw [if_neg (fun h => hc h.1)]
      rw [e] at hp
      have ht : t = [] := hp.symm
      subst ht
      exact M.readL_nil p fs h
    · rw [if_neg hp]; exact Nat.zero_le _
theorem M.outX_len (t : ByteArray) : (M.outX t).2.2.length ≤ 20 := by
  unfold M.outX
  split
  · exact Nat.zero_le _
  · exact M.outL_len _ _
/-- An answer in a box. -/
def M.Box3 (W : World) (b : Nat) (x y z : Value) : Prop := W.heap[b]? = some (.cells #[x, y, z] 24 (0, 0))
theorem M.Box3.lt {W : World} {b : Nat} {x y z : Value} (h : M.Box3 W b x y z) : b < W.heap.size := (Array.getElem?_eq_some_iff.1 h).1
theorem M.Box3.cells {W : World} {b : Nat} {x y z : Value} (h : M.Box3 W b x y z) : W.cell? ⟨b, 0, none⟩ = some x ∧ W.cell? ⟨b, 1, none⟩ = some y ∧ W.cell? ⟨b, 2, none⟩ = some z := by
  unfold M.Box3 at h
  refine ⟨?_, ?_, ?_⟩ <;> simp [World.cell?, h]
theorem M.Box3.below {W W' : World} {b : Nat} {x y z : Value} (h : M.Box3 W b x y z) (hb : Below W.heap.size W W') : M.Box3 W' b x y z := by
  unfold M.Box3; rw [hb.block b h.lt]; exact h
theorem M.Box3.grown {W W' : World} {b : Nat} {x y z : Value} {o : Option Nat} (h : M.Box3 W b x y z) (hg : W.grownBy W' o) (hne : some b ≠ o) : M.Box3 W' b x y z := by
  unfold M.Box3; rw [hg.block b h.lt hne]; exact h

set_option maxRecDepth 100000 in
set_option maxHeartbeats 1600000 in
theorem fnExactUnpack_walk (t : ByteArray) (w : World) (hs : t.size ≤ maxLen) (hm : M.ml w) (hw : M.pw w) (htz : M.tz w) (hg : M.errT w) :
    Calls Tryz.prog 3 #[.string t] w fun e w' => e = .returned (.bool true) ∧ Below w.heap.size w w' := by
  have hs' := hs
  unfold maxLen at hs'
  by_cases hbig : 1048576 < t.size
  · clear hm hw htz hg
    go_enter Tryz.func3, Tryz.ntmps3
    go_wp2
    go_ret
    exact ⟨rfl, Below.refl _ _⟩
  have hS := fun W => sUnpack_all t W hs
  have hI := fun W hb => iUnpack_all t W hs (M.ml_below hm hb) (hw.below hb) (htz.below hb) (M.errT_below hg hb)
  have hl := M.outX_len t
  revert hS hI hl
  generalize M.outX t = r
  obtain ⟨c, a, gs⟩ := r
  intro hS hI hl
  have hl' : gs.length ≤ 20 := hl
  have HS := M.hidp hS
  have HI : Hid (∀ W, Below w.heap.size w W → Calls Tryz.prog 5 #[.string t] W fun e w' => M.PaxOwn w' W.heap.size e (c, a, gs) ∧ Below W.heap.size W w') := hI
  clear hS hI hl hm hw htz hg
  have MN : Hid (∀ W base v x y, M.Own W base 36 v (M.marks gs.length 1) → Calls Tryz.prog 8 #[.agg #[v, x, y], .int .i64 1] W fun e w' => e = .returned (.int .i64 ((1 + 5 * gs.length : Nat) : Int)) ∧ Below W.heap.size W w') := fun W base v x y h => heldPax_any W base v x y gs.length h (by omega)
  have MK : Hid (∀ W base v x y, M.Own W base 36 v gs → Calls Tryz.prog 7 #[.agg #[v, x, y], .int .i64 1] W fun e w' => e = .returned (.int .i64 ((1 + 5 * gs.length : Nat) : Int)) ∧ M.Own w' base 36 v (M.marks gs.length 1) ∧ W.grownBy w' v.ownBlock) := fun W base v x y h => markPax_any W base v x y gs h (by omega)
  obtain ⟨mm, hmm⟩ : ∃ mm, mm = 1 + 5 * gs.length := ⟨_, rfl⟩
  rw [← hmm] at MN MK
  have hmm' : mm ≤ 10000 := by omega
  clear hmm
  have dd : ((mm : Int) != (mm : Int)) = false := by simp
  have dd' : ((mm : Int) == (mm : Int)) = true := by simp
  go_enter Tryz.func3, Tryz.ntmps3
  go_wp2_with fail
  refine (HS.out _).mono ?_
  rintro e w1 ⟨⟨av, cap, rfl, hf1⟩, hb1⟩
  have F1 : Hid (M.Files w1 av gs.length cap gs) := hf1
  have B1 : Hid (Below w.heap.size w w1) := hb1
  have B1a : Hid (Below w.heap.size w (w1.alloc (.cells #[.slice av gs.length cap, .int .i64 (a : Int), .int .i64 c] 24))) := hb1.alloc hb1.size _
  clear hf1 hb1
  go_wp2_with fail
  refine (HI.out _ B1a.out).mono ?_
  rintro e w2 ⟨⟨VV, rfl, ho2⟩, hb2⟩
  obtain ⟨ao, co, rfl, -⟩ := ho2.files
  have hz2 : w1.heap.size < w2.heap.size := by have := hb2.size; simp at this; omega
  have k0 := M.boxed hb2 0 _ rfl
  have k1 := M.boxed hb2 1 _ rfl
  have k2 := M.boxed hb2 2 _ rfl
  have A2 : Hid (Below (w1.alloc (.cells #[.slice av gs.length cap, .int .i64 (a : Int), .int .i64 c] 24)).heap.size (w1.alloc (.cells #[.slice av gs.length cap, .int .i64 (a : Int), .int .i64 c] 24)) (w2.alloc (.cells #[(.slice ao gs.length co), .int .i64 (a : Int), .int .i64 c] 24))) := hb2.alloc hb2.size _
  have O2 : Hid (M.Own (w2.alloc (.cells #[(.slice ao gs.length co), .int .i64 (a : Int), .int .i64 c] 24)) (w1.alloc (.cells #[.slice av gs.length cap, .int .i64 (a : Int), .int .i64 c] 24)).heap.size 36 (.slice ao gs.length co) gs) := M.Own.below ho2 ((Below.refl _ _).alloc (Nat.le_refl _) _)
  have X2 : Hid (M.Box3 (w2.alloc (.cells #[(.slice ao gs.length co), .int .i64 (a : Int), .int .i64 c] 24)) w2.heap.size (.slice ao gs.length co) (.int .i64 (a : Int)) (.int .i64 c)) := heap_alloc_last w2 _
  have VB : Hid (∀ j, (Value.slice ao gs.length co).ownBlock = some j → (w1.alloc (.cells #[.slice av gs.length cap, .int .i64 (a : Int), .int .i64 c] 24)).heap.size ≤ j ∧ j < w2.heap.size) := fun j hj => World.ownsRow.lt ho2 j hj
  have FF : Hid (∀ W, Below (w1.alloc (.cells #[.slice av gs.length cap, .int .i64 (a : Int), .int .i64 c] 24)).heap.size (w1.alloc (.cells #[.slice av gs.length cap, .int .i64 (a : Int), .int .i64 c] 24)) W → M.Files W av gs.length cap gs) := fun W hW => F1.out.below (((Below.refl _ _).alloc (Nat.le_refl _) _).trans (hW.mono (by simp)))
  clear ho2 hb2 F1
  go_wp2_with fail
  refine (eqPax_any _ _ (.slice ao gs.length co) av cap (a : Int) c gs O2.out (FF.out _ A2.out)).mono ?_
  rintro e w3 ⟨rfl, hb3⟩
  have A3 : Hid (Below (w1.alloc (.cells #[.slice av gs.length cap, .int .i64 (a : Int), .int .i64 c] 24)).heap.size (w1.alloc (.cells #[.slice av gs.length cap, .int .i64 (a : Int), .int .i64 c] 24)) w3) := M.s1' A2.out hb3
  have O3 := M.hidp (O2.out.below hb3)
  have X3 := M.hidp (X2.out.below hb3)
  obtain ⟨x0, x1, x2⟩ := X3.out.cells
  clear hb3 A2 O2 X2 k0 k1 k2
  go_wp2_with fail
  refine (MK.out _ _ (.slice ao gs.length co) _ _ O3.out).mono ?_
  rintro e w4 ⟨rfl, ho4, hg4⟩
  have A4 : Hid (Below (w1.alloc (.cells #[.slice av gs.length cap, .int .i64 (a : Int), .int .i64 c] 24)).heap.size (w1.alloc (.cells #[.slice av gs.length cap, .int .i64 (a : Int), .int .i64 c] 24)) w4) := A3.out.grown hg4 A3.out.size (fun j hj => (VB.out j hj).1)
  have O4 := M.hidp ho4
  have X4 := M.hidp (X3.out.grown hg4 (fun e => by have := (VB.out _ e.symm).2; omega))
  obtain ⟨y0, y1, y2⟩ := X4.out.cells
  clear ho4 hg4 A3 O3 X3 x0 x1 x2
  go_wp2_with fail
  refine (MN.out _ _ (.slice ao gs.length co) _ _ O4.out).mono ?_
  rintro e w5 ⟨rfl, hb5⟩
  have A5 : Hid (Below (w1.alloc (.cells #[.slice av gs.length cap, .int .i64 (a : Int), .int .i64 c] 24)).heap.size (w1.alloc (.cells #[.slice av gs.length cap, .int .i64 (a : Int), .int .i64 c] 24)) w5) := M.s1' A4.out hb5
  have O5 := M.hidp (O4.out.below hb5)
  have X5 := M.hidp (X4.out.below hb5)
  have B5 : Hid (Below w.heap.size w w5) := B1.out.trans ((M.boxed_below A5.out).mono B1.out.size)
  clear hb5 A4 O4 X4 y0 y1 y2
  go_wp2_with fail
  refine (HI.out _ B5.out).mono ?_
  rintro e w6 ⟨⟨VV, rfl, ho6⟩, hb6⟩
  obtain ⟨a6, c6, rfl, -⟩ := ho6.files
  have A6 : Hid (Below (w1.alloc (.cells #[.slice av gs.length cap, .int .i64 (a : Int), .int .i64 c] 24)).heap.size (w1.alloc (.cells #[.slice av gs.length cap, .int .i64 (a : Int), .int .i64 c] 24)) (w6.alloc (.cells #[(.slice a6 gs.length c6), .int .i64 (a : Int), .int .i64 c] 24))) := (M.s1' A5.out hb6).alloc (Nat.le_trans A5.out.size hb6.size) _
  have O6 := M.hidp (O5.out.below hb6)
  have O6a := M.hidp (O6.out.below ((Below.refl _ _).alloc (Nat.le_refl _) (.cells #[(.slice a6 gs.length c6), .int .i64 (a : Int), .int .i64 c] 24)))
  have X6a := M.hidp ((X5.out.below hb6).below ((Below.refl _ _).alloc (Nat.le_refl _) (.cells #[(.slice a6 gs.length c6), .int .i64 (a : Int), .int .i64 c] 24)))
  have N6 : Hid (M.Own (w6.alloc (.cells #[(.slice a6 gs.length c6), .int .i64 (a : Int), .int .i64 c] 24)) w5.heap.size 36 (.slice a6 gs.length c6) gs) := M.Own.below ho6 ((Below.refl _ _).alloc (Nat.le_refl _) _)
  have hz6 : w1.heap.size < w6.heap.size := by have h1 := A5.out.size; have h2 := hb6.size; simp at h1; omega
  have k0 := M.boxed (M.s1' A5.out hb6) 0 _ rfl
  have k1 := M.boxed (M.s1' A5.out hb6) 1 _ rfl
  have k2 := M.boxed (M.s1' A5.out hb6) 2 _ rfl
  clear ho6 hb6 A5 O5 X5 O6 B5
  go_wp2_with fail
  refine (eqPax_any _ _ (.slice a6 gs.length c6) av cap (a : Int) c gs N6.out (FF.out _ A6.out)).mono ?_
  rintro e w7 ⟨rfl, hb7⟩
  have A7 : Hid (Below (w1.alloc (.cells #[.slice av gs.length cap, .int .i64 (a : Int), .int .i64 c] 24)).heap.size (w1.alloc (.cells #[.slice av gs.length cap, .int .i64 (a : Int), .int .i64 c] 24)) w7) := M.s1' A6.out hb7
  have O7 := M.hidp (O6a.out.below hb7)
  have X7 := M.hidp (X6a.out.below hb7)
  obtain ⟨z0, z1, z2⟩ := X7.out.cells
  clear hb7 A6 O6a X6a N6 k0 k1 k2
  go_wp2_with fail
  refine (MN.out _ _ (.slice ao gs.length co) _ _ O7.out).mono ?_
  rintro e w8 ⟨rfl, hb8⟩
  have B8 : Hid (Below w.heap.size w w8) := B1.out.trans ((M.boxed_below (M.s1' A7.out hb8)).mono B1.out.size)
  clear hb8
  go_wp2
  go_ret
  exact ⟨rfl, B8.out⟩
end Go.Proofs.YthiojdemcaaihaaGreatDoor
