/-
  The specification's source of draws: what its steps do, told as far as a law needs it: some number within its bounds, and nothing turned but the source itself.
-/
import Derived.Test.YtgppdhfhcnkfpaaRows
import Derived.WalkKit
import Derived.WalkSpells
import Derived.WalkLawsBesides
import Derived.OpenShut
namespace Go.Proofs.Ytgppdhfhcnkfpaa
open Go.RowKit

theorem M.gen_world {P : World → Prop} {W : World} (R : World → Prop) (hR : R W) (h : ∀ w', R w' → P w') : P W := h W hR

/-- The bytes of a draw, as they came in (of an empty slice nothing is known of its place). -/
def M.IsRow (w : World) (a : Option Addr) (len cap : Nat) : Prop :=
  len ≤ cap ∧ cap ≤ maxLen ∧ (0 < len → ∃ b off, a = some ⟨b, off, none⟩ ∧ ∀ i, i < len → ∃ z : Int, 0 ≤ z ∧ z ≤ 255 ∧ w.cell? ⟨b, off + i, none⟩ = some (.int .u8 z))
theorem M.IsRow.lt {w : World} {a : Option Addr} {len cap : Nat} (h : M.IsRow w a len cap) (hl : 0 < len) : ∀ x, a = some x → x.block < w.heap.size := by
  obtain ⟨_, _, h3⟩ := h
  obtain ⟨b, off, rfl, hz⟩ := h3 hl
  obtain ⟨z, _, _, cz⟩ := hz 0 hl
  intro x hx
  obtain rfl := Option.some.inj hx
  exact World.block_lt_of_cell? w ⟨b, off + 0, none⟩ cz
theorem M.IsRow.len_le {w : World} {a : Option Addr} {len cap : Nat} (h : M.IsRow w a len cap) : len ≤ 9223372036854775807 := by
  obtain ⟨h1, h2, _⟩ := h
  unfold maxLen at h2; omega

theorem M.isRow_of {w : World} {x : Addr} {len cap : Nat} {zs : List Int} (hl : len ≤ cap) (hm : cap ≤ maxLen) (hz : zs.length = cap) (hcell : ∀ i, i < zs.length → w.cell? (x.add i) = some (.int .u8 (zs.getD i 0))) (hwz : ∀ n ∈ zs, (Lit.int .u8 n).wf = true) : M.IsRow w (some x) len cap := by
  refine ⟨hl, hm, fun h0 => ?_⟩
  obtain ⟨b, off, spot⟩ := x
  have hc := hcell 0 (by omega)
  have hspot : spot = none := by simpa [Addr.add] using World.cell?_spot hc
  subst hspot
  refine ⟨b, off, rfl, fun i hi => ?_⟩
  have hb := bounds_u8 (hwz (zs.getD i 0) (by rw [List.getD_eq_getElem?_getD, List.getElem?_eq_getElem (by omega)]; exact List.getElem_mem _))
  exact ⟨zs.getD i 0, hb.1, hb.2, by have := hcell i (by omega); rwa [Addr.add_lit] at this⟩

/-- A source in the world W, at block g: nothing else has turned since w0. -/
structure M.SrcAt (w0 : World) (g : Nat) (a : Option Addr) (len cap : Nat) (W : World) : Prop where
  c0 : W.cell? ⟨g, 0, none⟩ = some (.slice a len cap)
  c1 : ∃ t : Nat, t ≤ len ∧ W.cell? ⟨g, 1, none⟩ = some (.int .i64 t)
  c2 : ∃ m : Int, 0 ≤ m ∧ m ≤ 18446744073709551615 ∧ W.cell? ⟨g, 2, none⟩ = some (.int .u64 m)
  c3 : ∃ z : Int, 0 ≤ z ∧ z ≤ 12 ∧ W.cell? ⟨g, 3, none⟩ = some (.int .i64 z)
  free : ∀ j, W.frozen? ⟨g, j, none⟩ = false
  keeps : w0.grownBy W (some g)

theorem M.grown_set {w0 W : World} {g : Nat} (h : w0.grownBy W (some g)) (j : Nat) (v : Value) : w0.grownBy (W.setCell ⟨g, j, none⟩ v) (some g) :=
  ⟨h.os, h.tape, h.output, by have := h.size; simp [World.setCell]; omega, fun k hk hne => by
    rw [Below.heap_setCell W ⟨g, j, none⟩ v k (fun e => hne (by rw [e]))]; exact h.block k hk hne⟩
theorem M.grown_trans {a b c : World} {g : Nat} (h : a.grownBy b (some g)) (k : b.grownBy c (some g)) : a.grownBy c (some g) :=
  ⟨k.os.trans h.os, k.tape.trans h.tape, k.output.trans h.output, Nat.le_trans h.size k.size, fun i hi hne => (k.block i (Nat.lt_of_lt_of_le hi h.size) hne).trans (h.block i hi hne)⟩

theorem M.SrcAt.drew {w0 : World} {g : Nat} {a : Option Addr} {len cap : Nat} {W : World} (h : M.SrcAt w0 g a len cap W) : M.SrcAt w0 g a len cap W.drew :=
  ⟨h.c0, h.c1, h.c2, h.c3, h.free, ⟨h.keeps.os, h.keeps.tape, h.keeps.output, h.keeps.size, h.keeps.block⟩⟩
theorem M.SrcAt.set1 {w0 : World} {g : Nat} {a : Option Addr} {len cap : Nat} {W : World} (h : M.SrcAt w0 g a len cap W) {z : Int} (t : Nat) (hz : z = (t : Int)) (ht : t ≤ len) : M.SrcAt w0 g a len cap (W.setCell ⟨g, 1, none⟩ (.int .i64 z)) := by
  subst hz
  obtain ⟨c0, ⟨t1, _, c1⟩, ⟨m, hm, hm', c2⟩, ⟨z3, hz, hz', c3⟩, hf, hk⟩ := h
  refine ⟨?_, ⟨t, ht, World.cell?_setCell_same _ _ _ c1⟩, ⟨m, hm, hm', ?_⟩, ⟨z3, hz, hz', ?_⟩, fun j => by rw [World.frozen?_setCell]; exact hf j, M.grown_set hk _ _⟩
  · rw [World.cell?_setCell_other _ _ _ _ (by simp)]; exact c0
  · rw [World.cell?_setCell_other _ _ _ _ (by simp)]; exact c2
  · rw [World.cell?_setCell_other _ _ _ _ (by simp)]; exact c3
theorem M.SrcAt.set2 {w0 : World} {g : Nat} {a : Option Addr} {len cap : Nat} {W : World} (h : M.SrcAt w0 g a len cap W) {z : Int} (hz : 0 ≤ z ∧ z ≤ 18446744073709551615) : M.SrcAt w0 g a len cap (W.setCell ⟨g, 2, none⟩ (.int .u64 z)) := by
  obtain ⟨c0, ⟨t1, ht, c1⟩, ⟨m, hm, hm', c2⟩, ⟨z3, hz3, hz3', c3⟩, hf, hk⟩ := h
  refine ⟨?_, ⟨t1, ht, ?_⟩, ⟨z, hz.1, hz.2, World.cell?_setCell_same _ _ _ c2⟩, ⟨z3, hz3, hz3', ?_⟩, fun j => by rw [World.frozen?_setCell]; exact hf j, M.grown_set hk _ _⟩
  · rw [World.cell?_setCell_other _ _ _ _ (by simp)]; exact c0
  · rw [World.cell?_setCell_other _ _ _ _ (by simp)]; exact c1
  · rw [World.cell?_setCell_other _ _ _ _ (by simp)]; exact c3

theorem M.draw_range (X most : Int) (h : 1 < most) (h9 : most ≤ 9223372036854775807) : 0 ≤ wrap64 ((IntKind.u64.wrap X).tmod most) ∧ wrap64 ((IntKind.u64.wrap X).tmod most) < most := by
  obtain ⟨h0, h1⟩ := bounds_u64 (wf_wrap .u64 X)
  rw [Int.tmod_eq_emod_of_nonneg h0]
  have h2 := Int.emod_nonneg (IntKind.u64.wrap X) (show most ≠ 0 by omega)
  have h3 := Int.emod_lt_of_pos (IntKind.u64.wrap X) (show 0 < most by omega)
  rw [IntWalk.wrap64_in _ ⟨by omega, by omega⟩]
  exact ⟨h2, h3⟩

set_option maxRecDepth 100000 in
set_option maxHeartbeats 1600000 in
theorem n_read (w : World) (g b off len cap : Nat) (t : Nat) (mix z most : Int) (hS : M.SrcAt w g (some ⟨b, off, none⟩) len cap w) (hlen : len ≤ 9223372036854775807) (ht : t < len) (_hm0 : 0 ≤ mix) (_hm9 : mix ≤ 18446744073709551615) (hz0 : 0 ≤ z) (hz9 : z ≤ 255)
    (c0 : w.cell? ⟨g, 0, none⟩ = some (.slice (some ⟨b, off, none⟩) len cap)) (c1 : w.cell? ⟨g, 1, none⟩ = some (.int .i64 t)) (c2 : w.cell? ⟨g, 2, none⟩ = some (.int .u64 mix))
    (f1 : w.frozen? ⟨g, 1, none⟩ = false) (f2 : w.frozen? ⟨g, 2, none⟩ = false) (cz : w.cell? ⟨b, off + t, none⟩ = some (.int .u8 z)) (hmo : 1 < most) (hmo9 : most ≤ 9223372036854775807) :
    Calls Try.prog 46 #[.pointer (some ⟨g, 0, none⟩), .int .i64 most] w fun e w' => ∃ v : Int, e = .returned (.int .i64 v) ∧ 0 ≤ v ∧ v < most ∧ M.SrcAt w g (some ⟨b, off, none⟩) len cap w' := by
  have HS : Hid _ := hS
  clear hS
  go_enter Try.func46, Try.ntmps46
  go_wp2
  go_region
  go_wp2
  go_region
  go_wp2
  go_region
  go_wp2
  refine M.gen_world (M.SrcAt w g (some ⟨b, off, none⟩) len cap) ?_ ?_
  · repeat (first | exact HS.out | refine M.SrcAt.drew ?_ | refine M.SrcAt.set2 ?_ (bounds_u64 (wf_bits _ _ _ _)) | refine M.SrcAt.set1 ?_ (t + 1) (by omega) (by omega))
  intro w1 hS1
  obtain ⟨m1, hm10, hm19, c21⟩ := hS1.c2
  have f21 := hS1.free 2
  have HS1 : Hid _ := hS1
  clear hS1
  go_region
  go_wp2
  refine M.gen_world (M.SrcAt w g (some ⟨b, off, none⟩) len cap) ?_ ?_
  · repeat (first | exact HS1.out | refine M.SrcAt.drew ?_ | refine M.SrcAt.set2 ?_ (bounds_u64 (wf_bits _ _ _ _)))
  intro w2 hS2
  obtain ⟨m2, hm20, hm29, c22⟩ := hS2.c2
  have f22 := hS2.free 2
  have HS2 : Hid _ := hS2
  clear hS2
  go_region
  go_wp2
  go_ret
  refine ⟨_, rfl, (M.draw_range _ most hmo hmo9).1, (M.draw_range _ most hmo hmo9).2, ?_⟩
  repeat (first | exact HS2.out | refine M.SrcAt.drew ?_ | refine M.SrcAt.set2 ?_ (bounds_u64 (wf_bits _ _ _ _)))
set_option maxRecDepth 100000 in
set_option maxHeartbeats 1600000 in
theorem n_end (w : World) (g len cap : Nat) (a : Option Addr) (t : Nat) (mix most : Int) (hS : M.SrcAt w g a len cap w) (_hlen : len ≤ 9223372036854775807) (ht : ¬ t < len) (_hm0 : 0 ≤ mix) (_hm9 : mix ≤ 18446744073709551615)
    (c0 : w.cell? ⟨g, 0, none⟩ = some (.slice a len cap)) (c1 : w.cell? ⟨g, 1, none⟩ = some (.int .i64 t)) (c2 : w.cell? ⟨g, 2, none⟩ = some (.int .u64 mix))
    (f2 : w.frozen? ⟨g, 2, none⟩ = false) (hmo : 1 < most) (hmo9 : most ≤ 9223372036854775807) :
    Calls Try.prog 46 #[.pointer (some ⟨g, 0, none⟩), .int .i64 most] w fun e w' => ∃ v : Int, e = .returned (.int .i64 v) ∧ 0 ≤ v ∧ v < most ∧ M.SrcAt w g a len cap w' := by
  have HS : Hid _ := hS
  clear hS
  go_enter Try.func46, Try.ntmps46
  go_wp2
  go_region
  go_wp2
  go_region
  go_wp2
  refine M.gen_world (M.SrcAt w g a len cap) ?_ ?_
  · repeat (first | exact HS.out | refine M.SrcAt.drew ?_ | refine M.SrcAt.set2 ?_ (bounds_u64 (wf_bits _ _ _ _)))
  intro w1 hS1
  obtain ⟨m1, hm10, hm19, c21⟩ := hS1.c2
  have f21 := hS1.free 2
  have HS1 : Hid _ := hS1
  clear hS1
  go_region
  go_wp2
  refine M.gen_world (M.SrcAt w g a len cap) ?_ ?_
  · repeat (first | exact HS1.out | refine M.SrcAt.drew ?_ | refine M.SrcAt.set2 ?_ (bounds_u64 (wf_bits _ _ _ _)))
  intro w2 hS2
  obtain ⟨m2, hm20, hm29, c22⟩ := hS2.c2
  have f22 := hS2.free 2
  have HS2 : Hid _ := hS2
  clear hS2
  go_region
  go_wp2
  go_ret
  refine ⟨_, rfl, (M.draw_range _ most hmo hmo9).1, (M.draw_range _ most hmo hmo9).2, ?_⟩
  repeat (first | exact HS2.out | refine M.SrcAt.drew ?_ | refine M.SrcAt.set2 ?_ (bounds_u64 (wf_bits _ _ _ _)))

theorem M.SrcAt.self {w0 : World} {g : Nat} {a : Option Addr} {len cap : Nat} {W : World} (h : M.SrcAt w0 g a len cap W) : M.SrcAt W g a len cap W :=
  ⟨h.c0, h.c1, h.c2, h.c3, h.free, World.grownBy.refl W _⟩
theorem M.SrcAt.onto {w0 : World} {g : Nat} {a : Option Addr} {len cap : Nat} {W W' : World} (h : M.SrcAt w0 g a len cap W) (k : M.SrcAt W g a len cap W') : M.SrcAt w0 g a len cap W' :=
  ⟨k.c0, k.c1, k.c2, k.c3, k.free, M.grown_trans h.keeps k.keeps⟩

set_option maxHeartbeats 400000 in
theorem n_small (w : World) (g : Nat) (most : Int) (hmo : most ≤ 1) :
    Calls Try.prog 46 #[.pointer (some ⟨g, 0, none⟩), .int .i64 most] w fun e w' => e = .returned (.int .i64 0) ∧ w = w' := by
  go_enter Try.func46, Try.ntmps46
  go_wp2
  go_ret
  exact ⟨rfl, rfl⟩

/-- 'n': a number from 0 to below most (0, if most is not above 1); the source alone has turned. The bytes lie in another block. -/
theorem n_any (w : World) (g len cap : Nat) (a : Option Addr) (most : Int) (hS : M.SrcAt w g a len cap w) (hR : M.IsRow w a len cap) (hmo9 : most ≤ 9223372036854775807) :
    Calls Try.prog 46 #[.pointer (some ⟨g, 0, none⟩), .int .i64 most] w fun e w' => ∃ v : Int, e = .returned (.int .i64 v) ∧ 0 ≤ v ∧ (1 < most → v < most) ∧ (most ≤ 1 → v = 0) ∧ M.SrcAt w g a len cap w' := by
  by_cases hmo : 1 < most
  · obtain ⟨t, ht, c1⟩ := hS.c1
    obtain ⟨m, hm0, hm9, c2⟩ := hS.c2
    have hlen := hR.len_le
    by_cases hlt : t < len
    · obtain ⟨b, off, rfl, hz⟩ := hR.2.2 (by omega)
      obtain ⟨z, hz0, hz9, cz⟩ := hz t hlt
      refine (n_read w g b off len cap t m z most hS hlen hlt hm0 hm9 hz0 hz9 hS.c0 c1 c2 (hS.free 1) (hS.free 2) cz hmo hmo9).mono ?_
      rintro e w' ⟨v, he, h0, h1, hS'⟩
      exact ⟨v, he, h0, fun _ => h1, fun h => by omega, hS'⟩
    · refine (n_end w g len cap a t m most hS hlen hlt hm0 hm9 hS.c0 c1 c2 (hS.free 2) hmo hmo9).mono ?_
      rintro e w' ⟨v, he, h0, h1, hS'⟩
      exact ⟨v, he, h0, fun _ => h1, fun h => by omega, hS'⟩
  · refine (n_small w g most (by omega)).mono ?_
    rintro e w' ⟨rfl, rfl⟩
    exact ⟨0, rfl, by omega, fun h => absurd h hmo, fun _ => rfl, hS⟩

/-- A source that can be drawn from, in the world W; its bytes lie in blocks below B. -/
structure M.Src (g : Nat) (a : Option Addr) (len cap : Nat) (W : World) : Prop where
  lies : M.SrcAt W g a len cap W
  row : M.IsRow W a len cap
  ne : 0 < len → ∀ x, a = some x → x.block < g

theorem M.IsRow.kept {W W' : World} {a : Option Addr} {len cap : Nat} {row : Option Nat} (h : M.IsRow W a len cap) (hg : W.grownBy W' row) (h2 : 0 < len → ∀ x, a = some x → some x.block ≠ row) : M.IsRow W' a len cap := by
  obtain ⟨h1, h3, hz⟩ := h
  refine ⟨h1, h3, fun hl => ?_⟩
  obtain ⟨b, off, rfl, hz2⟩ := hz hl
  refine ⟨b, off, rfl, fun i hi => ?_⟩
  obtain ⟨z, hz0, hz9, cz⟩ := hz2 i hi
  exact ⟨z, hz0, hz9, hg.cell cz (h2 hl ⟨b, off, none⟩ rfl)⟩
theorem M.Src.lt {W : World} {g : Nat} {a : Option Addr} {len cap : Nat} (h : M.Src g a len cap W) : g < W.heap.size := World.block_lt_of_cell? W _ h.lies.c0
/-- What is written to blocks behind the source's leaves it. -/
theorem M.Src.kept {W W' : World} {g : Nat} {a : Option Addr} {len cap : Nat} {row : Option Nat} (h : M.Src g a len cap W) (hg : W.grownBy W' row) (h1 : ∀ k, row = some k → g < k) : M.Src g a len cap W' := by
  obtain ⟨⟨c0, ⟨t1, ht, c1⟩, ⟨m, hm, hm', c2⟩, ⟨z3, hz3, hz3', c3⟩, hf, _⟩, hr, hn⟩ := h
  have hlt : g < W.heap.size := World.block_lt_of_cell? W _ c0
  have h1' : some g ≠ row := fun e => by have := h1 g e.symm; omega
  exact ⟨⟨hg.cell c0 h1', ⟨t1, ht, hg.cell c1 h1'⟩, ⟨m, hm, hm', hg.cell c2 h1'⟩, ⟨z3, hz3, hz3', hg.cell c3 h1'⟩, fun j => by
    rw [World.frozen?_of_block (w := W) (hg.block g hlt h1')]; exact hf j, World.grownBy.refl _ _⟩, hr.kept hg (fun hl x hx e => by have := h1 _ e.symm; have := hn hl x hx; omega), hn⟩

theorem src_n (w : World) (g len cap : Nat) (a : Option Addr) (most : Int) (h : M.Src g a len cap w) (hmo9 : most ≤ 9223372036854775807) :
    Calls Try.prog 46 #[.pointer (some ⟨g, 0, none⟩), .int .i64 most] w fun e w' => ∃ v : Int, e = .returned (.int .i64 v) ∧ 0 ≤ v ∧ (1 < most → v < most) ∧ (most ≤ 1 → v = 0) ∧ M.Src g a len cap w' ∧ w.grownBy w' (some g) := by
  refine (n_any w g len cap a most h.lies h.row hmo9).mono ?_
  rintro e w' ⟨v, he, h0, h1, h2, hS⟩
  exact ⟨v, he, h0, h1, h2, ⟨hS.self, h.row.kept hS.keeps (fun hl x hx => by have := h.ne hl x hx; simp; omega), h.ne⟩, hS.keeps⟩

set_option maxHeartbeats 400000 in
theorem src_one (w : World) (g len cap : Nat) (a : Option Addr) (most : Int) (h : M.Src g a len cap w) (hmo9 : most ≤ 9223372036854775807) :
    Calls Try.prog 45 #[.pointer (some ⟨g, 0, none⟩), .int .i64 most] w fun e w' => ∃ v : Bool, e = .returned (.bool v) ∧ M.Src g a len cap w' ∧ w.grownBy w' (some g) := by
  have HS : Hid _ := h
  clear h
  go_enter Try.func45, Try.ntmps45
  go_wp2_with (go_at_call 46; refine (src_n _ g len cap a most HS.out hmo9).mono ?_; rintro e w' ⟨v, rfl, h0, h1, h2, hS, hg⟩)
  go_ret
  exact ⟨_, rfl, hS, hg⟩

theorem M.SrcAt.set3 {w0 : World} {g : Nat} {a : Option Addr} {len cap : Nat} {W : World} (h : M.SrcAt w0 g a len cap W) {z : Int} (hz : 0 ≤ z ∧ z ≤ 12) : M.SrcAt w0 g a len cap (W.setCell ⟨g, 3, none⟩ (.int .i64 z)) := by
  obtain ⟨c0, ⟨t1, ht, c1⟩, ⟨m, hm, hm', c2⟩, ⟨z3, hz3, hz3', c3⟩, hf, hk⟩ := h
  refine ⟨?_, ⟨t1, ht, ?_⟩, ⟨m, hm, hm', ?_⟩, ⟨z, hz.1, hz.2, World.cell?_setCell_same _ _ _ c3⟩, fun j => by rw [World.frozen?_setCell]; exact hf j, M.grown_set hk _ _⟩
  · rw [World.cell?_setCell_other _ _ _ _ (by simp)]; exact c0
  · rw [World.cell?_setCell_other _ _ _ _ (by simp)]; exact c1
  · rw [World.cell?_setCell_other _ _ _ _ (by simp)]; exact c2
theorem M.SrcAt.set33 {w0 : World} {g : Nat} {a : Option Addr} {len cap : Nat} {W : World} (h : M.SrcAt w0 g a len cap W) {z y : Int} (hz : 0 ≤ z ∧ z ≤ 12) : M.SrcAt w0 g a len cap ((W.setCell ⟨g, 3, none⟩ (.int .i64 y)).setCell ⟨g, 3, none⟩ (.int .i64 z)) := by
  obtain ⟨c0, ⟨t1, ht, c1⟩, ⟨m, hm, hm', c2⟩, ⟨z3, hz3, hz3', c3⟩, hf, hk⟩ := h
  refine ⟨?_, ⟨t1, ht, ?_⟩, ⟨m, hm, hm', ?_⟩, ⟨z, hz.1, hz.2, World.cell?_setCell_same _ _ _ (World.cell?_setCell_same _ _ _ c3)⟩, fun j => by rw [World.frozen?_setCell, World.frozen?_setCell]; exact hf j, M.grown_set (M.grown_set hk _ _) _ _⟩
  · rw [World.cell?_setCell_other _ _ _ _ (by simp), World.cell?_setCell_other _ _ _ _ (by simp)]; exact c0
  · rw [World.cell?_setCell_other _ _ _ _ (by simp), World.cell?_setCell_other _ _ _ _ (by simp)]; exact c1
  · rw [World.cell?_setCell_other _ _ _ _ (by simp), World.cell?_setCell_other _ _ _ _ (by simp)]; exact c2

set_option maxRecDepth 100000 in
set_option maxHeartbeats 1600000 in
theorem source_any (w : World) (a : Option Addr) (len cap : Nat) (hR : M.IsRow w a len cap) :
    Calls Try.prog 44 #[.slice a len cap] w fun e w' => e = .returned (.pointer (some ⟨w.heap.size, 0, none⟩)) ∧ M.Src w.heap.size a len cap w' ∧ Below w.heap.size w w' := by
  have hlen := hR.len_le
  have hS0 : M.SrcAt (w.alloc (.cells #[.slice a len cap, .int .i64 0, .int .u64 88172645463325252, .int .i64 0] 86)) w.heap.size a len cap (w.alloc (.cells #[.slice a len cap, .int .i64 0, .int .u64 88172645463325252, .int .i64 0] 86)) :=
    ⟨by simp, ⟨0, Nat.zero_le _, by simp⟩, ⟨88172645463325252, by omega, by omega, by simp⟩, ⟨0, by omega, by omega, by simp⟩, fun j => by simp, World.grownBy.refl _ _⟩
  have HS0 : Hid _ := hS0
  have HR : Hid (M.IsRow w a len cap) := hR
  clear hS0 hR
  go_enter Try.func44, Try.ntmps44
  go_wp2
  go_loopw [4] (fun i wr => ∃ k : Nat, i = .int .i64 k ∧ k ≤ len ∧ Hid (M.SrcAt (w.alloc (.cells #[.slice a len cap, .int .i64 0, .int .u64 88172645463325252, .int .i64 0] 86)) w.heap.size a len cap wr)) (fun i _ => len - (intOf i).toNat)
  case atStart => exact ⟨0, rfl, Nat.zero_le _, HS0⟩
  case round =>
    obtain ⟨k, rfl, hk, HS⟩ := hrel
    by_cases hlt1 : k < len ∧ k < 64
    · obtain ⟨hkl, hk64⟩ := hlt1
      have hbl0 := HR.out.lt (by omega)
      obtain ⟨b, off, rfl, hz⟩ := HR.out.2.2 (by omega)
      obtain ⟨z, hz0, hz9, cz⟩ := hz k hkl
      have hbl : b < w.heap.size := hbl0 _ rfl
      clear hbl0
      have d1 : decide ((k : Int) < 64) = true := decide_eq_true (by omega)
      have cz1 : wr.cell? ⟨b, off + k, none⟩ = some (.int .u8 z) := by
        refine HS.out.keeps.cell ?_ (fun e => by have := Option.some.inj e; simp only at this; omega)
        rw [World.cell?_alloc_lt _ _ ⟨b, off + k, none⟩ hbl]; exact cz
      obtain ⟨m, hm0, hm9, c2⟩ := HS.out.c2
      have f2 := HS.out.free 2
      clear cz hz hbl
      go_wp2
      go_region
      go_wp2
      go_roundw
      case rel => exact ⟨k + 1, by go_num, by omega, M.SrcAt.set2 HS.out.drew (bounds_u64 (wf_wrap _ _))⟩
      case measure => simp [intOf]; omega
    · have fin : ∀ W, M.SrcAt (w.alloc (.cells #[.slice a len cap, .int .i64 0, .int .u64 88172645463325252, .int .i64 0] 86)) w.heap.size a len cap W → M.Src w.heap.size a len cap W ∧ Below w.heap.size w W := fun W hW => by
        have hb : Below w.heap.size w W := ((Below.refl _ _).alloc (Nat.le_refl _) _).grown hW.keeps (by simp) (fun k hk => by have := Option.some.inj hk; omega)
        refine ⟨⟨hW.self, ?_, fun hl x hx => HR.out.lt hl x hx⟩, hb⟩
        have h1 := HR.out.kept (World.grownBy_alloc w (.cells #[.slice a len cap, .int .i64 0, .int .u64 88172645463325252, .int .i64 0] 86) none) (fun _ x hx => by simp)
        exact h1.kept hW.keeps (fun hl x hx => by have := HR.out.lt hl x hx; simp; omega)
      have FIN : Hid _ := fin
      clear fin
      obtain ⟨z3, hz3, hz3', c3⟩ := HS.out.c3
      have f3 := HS.out.free 3
      rcases (show (¬ k < len ∧ len / 20 ≤ 12) ∨ (¬ k < len ∧ 12 < len / 20) ∨ (k < len ∧ ¬ k < 64 ∧ len / 20 ≤ 12) ∨ (k < len ∧ ¬ k < 64 ∧ 12 < len / 20) by omega) with ⟨hA, hB⟩ | ⟨hA, hB⟩ | ⟨hA, hC, hB⟩ | ⟨hA, hC, hB⟩
      all_goals
        first | (have d1 : decide ((k : Int) < 64) = false := decide_eq_false (by omega)) | skip
        clear hlt1
        go_wp2
        go_ret
        first
          | exact ⟨rfl, FIN.out _ (M.SrcAt.set3 HS.out ⟨by omega, by omega⟩)⟩
          | exact ⟨rfl, FIN.out _ (M.SrcAt.set33 HS.out ⟨by omega, by omega⟩)⟩
end Go.Proofs.Ytgppdhfhcnkfpaa
