/-
  The specification's source of draws: what its steps do, told as far as a law needs it: some number within its bounds, and nothing turned but the source itself.
-/
import Derived.Test.YtappficbjjkmiaaRows
import Derived.WalkKit
import Derived.WalkSpells
import Derived.WalkLawsBesides
import Derived.OpenShut
namespace Go.Proofs.Ytappficbjjkmiaa
open Go.RowKit

theorem M.gen_world {P : World → Prop} {W : World} (R : World → Prop) (hR : R W) (h : ∀ w', R w' → P w') : P W := h W hR

/-- The bytes of a draw, as they came in (of an empty slice nothing is known of its place). -/
def M.IsRow (w : World) (a : Option Addr) (len cap : Nat) : Prop :=
  len ≤ cap ∧ cap ≤ maxLen ∧ (0 < len → ∃ b off, a = some ⟨b, off, none⟩ ∧ ∀ i, i < len → ∃ z : Int, 0 ≤ z ∧ z ≤ 255 ∧ w.cell? ⟨b, off + i, none⟩ = some (.int .u8 z))
theorem M.IsRow.lt {w : World} {a : Option Addr} {len cap : Nat} (h : M.IsRow w a len cap) (hl : 0 < len) : ∀ x, a = some x → x.block < w.heap.size := by
  obtain ⟨_, _, h3⟩ := h
  obtain ⟨b, off, rfl, hz⟩ := h3 hl
  obtain ⟨z, _, _, cz⟩ := hz 0 hl
  intro x hx
  obtain rfl := Option.some.inj hx
  exact World.block_lt_of_cell? w ⟨b, off + 0, none⟩ cz
theorem M.IsRow.len_le {w : World} {a : Option Addr} {len cap : Nat} (h : M.IsRow w a len cap) : len ≤ 9223372036854775807 := by
  obtain ⟨h1, h2, _⟩ := h
  unfold maxLen at h2; omega

theorem M.isRow_of {w : World} {x : Addr} {len cap : Nat} {zs : List Int} (hl : len ≤ cap) (hm : cap ≤ maxLen) (hz : zs.length = cap) (hcell : ∀ i, i < zs.length → w.cell? (x.add i) = some (.int .u8 (zs.getD i 0))) (hwz : ∀ n ∈ zs, (Lit.int .u8 n).wf = true) : M.IsRow w (some x) len cap := by
  refine ⟨hl, hm, fun h0 => ?_⟩
  obtain ⟨b, off, spot⟩ := x
  have hc := hcell 0 (by omega)
  have hspot : spot = none := by simpa [Addr.add] using World.cell?_spot hc
  subst hspot
  refine ⟨b, off, rfl, fun i hi => ?_⟩
  have hb := bounds_u8 (hwz (zs.getD i 0) (by rw [List.getD_eq_getElem?_getD, List.getElem?_eq_getElem (by omega)]; exact List.getElem_mem _))
  exact ⟨zs.getD i 0, hb.1, hb.2, by have := hcell i (by omega); rwa [Addr.add_lit] at this⟩

/-- A source in the world W, at block g: nothing else has turned since w0. -/
structure M.SrcAt (w0 : World) (g : Nat) (a : Option Addr) (len cap : Nat) (W : World) : Prop where
  c0 : W.cell? ⟨g, 0, none⟩ = some (.slice a len cap)
  c1 : ∃ t : Nat, t ≤ len ∧ W.cell? ⟨g, 1, none⟩ = some (.int .i64 t)
  c2 : ∃ m : Int, 0 ≤ m ∧ m ≤ 18446744073709551615 ∧ W.cell? ⟨g, 2, none⟩ = some (.int .u64 m)
  c3 : ∃ z : Int, 0 ≤ z ∧ z ≤ 12 ∧ W.cell? ⟨g, 3, none⟩ = some (.int .i64 z)
  free : ∀ j, W.frozen? ⟨g, j, none⟩ = false
  keeps : w0.grownBy W (some g)

theorem M.grown_set {w0 W : World} {g : Nat} (h : w0.grownBy W (some g)) (j : Nat) (v : Value) : w0.grownBy (W.setCell ⟨g, j, none⟩ v) (some g) :=
  ⟨h.os, h.tape, h.output, by have := h.size; simp [World.setCell]; omega, fun k hk hne => by
    rw [Below.heap_setCell W ⟨g, j, none⟩ v k (fun e => hne (by rw [e]))]; exact h.block k hk hne⟩
theorem M.grown_trans {a b c : World} {g : Nat} (h : a.grownBy b (some g)) (k : b.grownBy c (some g)) : a.grownBy c (some g) :=
  ⟨k.os.trans h.os, k.tape.trans h.tape, k.output.trans h.output, Nat.le_trans h.size k.size, fun i hi hne => (k.block i (Nat.lt_of_lt_of_le hi h.size) hne).trans (h.block i hi hne)⟩

theorem M.SrcAt.drew {w0 : World} {g : Nat} {a : Option Addr} {len cap : Nat} {W : World} (h : M.SrcAt w0 g a len cap W) : M.SrcAt w0 g a len cap W.drew :=
  ⟨h.c0, h.c1, h.c2, h.c3, h.free, ⟨h.keeps.os, h.keeps.tape, h.keeps.output, h.keeps.size, h.keeps.block⟩⟩
theorem M.SrcAt.set1 {w0 : World} {g : Nat} {a : Option Addr} {len cap : Nat} {W : World} (h : M.SrcAt w0 g a len cap W) {z : Int} (t : Nat) (hz : z = (t : Int)) (ht : t ≤ len) : M.SrcAt w0 g a len cap (W.setCell ⟨g, 1, none⟩ (.int .i64 z)) := by
  subst hz
  obtain ⟨c0, ⟨t1, _, c1⟩, ⟨m, hm, hm', c2⟩, ⟨z3, hz, hz', c3⟩, hf, hk⟩ := h
  refine ⟨?_, ⟨t, ht, World.cell?_setCell_same _ _ _ c1⟩, ⟨m, hm, hm', ?_⟩, ⟨z3, hz, hz', ?_⟩, fun j => by rw [World.frozen?_setCell]; exact hf j, M.grown_set hk _ _⟩
  · rw [World.cell?_setCell_other _ _ _ _ (by simp)]; exact c0
  · rw [World.cell?_setCell_other _ _ _ _ (by simp)]; exact c2
  · rw [World.cell?_setCell_other _ _ _ _ (by simp)]; exact c3
theorem M.SrcAt.set2 {w0 : World} {g : Nat} {a : Option Addr} {len cap : Nat} {W : World} (h : M.SrcAt w0 g a len cap W) {z : Int} (hz : 0 ≤ z ∧ z ≤ 18446744073709551615) : M.SrcAt w0 g a len cap (W.setCell ⟨g, 2, none⟩ (.int .u64 z)) := by
  obtain ⟨c0, ⟨t1, ht, c1⟩, ⟨m, hm, hm', c2⟩, ⟨z3, hz3, hz3', c3⟩, hf, hk⟩ := h
  refine ⟨?_, ⟨t1, ht, ?_⟩, ⟨z, hz.1, hz.2, World.cell?_setCell_same _ _ _ c2⟩, ⟨z3, hz3, hz3', ?_⟩, fun j => by rw [World.frozen?_setCell]; exact hf j, M.grown_set hk _ _⟩
  · rw [World.cell?_setCell_other _ _ _ _ (by simp)]; exact c0
  · rw [World.cell?_setCell_other _ _ _ _ (by simp)]; exact c1
  · rw [World.cell?_setCell_other _ _ _ _ (by simp)]; exact c3

theorem M.draw_range (X most : Int) (h : 1 < most) (h9 : most ≤ 9223372036854775807) : 0 ≤ wrap64 ((IntKind.u64.wrap X).tmod most) ∧ wrap64 ((IntKind.u64.wrap X).tmod most) < most := by
  obtain ⟨h0, h1⟩ := bounds_u64 (wf_wrap .u64 X)
  rw [Int.tmod_eq_emod_of_nonneg h0]
  have h2 := Int.emod_nonneg (IntKind.u64.wrap X) (show most ≠ 0 by omega)
  have h3 := Int.emod_lt_of_pos (IntKind.u64.wrap X) (show 0 < most by omega)
  rw [IntWalk.wrap64_in _ ⟨by omega, by omega⟩]
  exact ⟨h2, h3⟩

set_option maxRecDepth 100000 in
set_option maxHeartbeats 1600000 in
theorem n_read (w : World) (g b off len cap : Nat) (t : Nat) (mix z most : Int) (hS : M.SrcAt w g (some ⟨b, off, none⟩) len cap w) (hlen : len ≤ 9223372036854775807) (ht : t < len) (_hm0 : 0 ≤ mix) (_hm9 : mix ≤ 18446744073709551615) (hz0 : 0 ≤ z) (hz9 : z ≤ 255)
    (c0 : w.cell? ⟨g, 0, none⟩ = some (.slice (some ⟨b, off, none⟩) len cap)) (c1 : w.cell? ⟨g, 1, none⟩ = some (.int .i64 t)) (c2 : w.cell? ⟨g, 2, none⟩ = some (.int .u64 mix))
    (f1 : w.frozen? ⟨g, 1, none⟩ = false) (f2 : w.frozen? ⟨g, 2, none⟩ = false) (cz : w.cell? ⟨b, off + t, none⟩ = some (.int .u8 z)) (hmo : 1 < most) (hmo9 : most ≤ 9223372036854775807) :
    Calls Try.prog 46 #[.pointer (some ⟨g, 0, none⟩), .int .i64 most] w fun e w' => ∃ v : Int, e = .returned (.int .i64 v) ∧ 0 ≤ v ∧ v < most ∧ M.SrcAt w g (some ⟨b, off, none⟩) len cap w' := by
  have HS : Hid _ := hS
  clear hS
  go_enter Try.func46, Try.ntmps46
  go_wp2
  go_region
  go_wp2
  go_region
  go_wp2
  go_region
  go_wp2
  refine M.gen_world (M.SrcAt w g (some ⟨b, off, none⟩) len cap) ?_ ?_
  · repeat (first | exact HS.out | refine M.SrcAt.drew ?_ | refine M.SrcAt.set2 ?_ (bounds_u64 (wf_bits _ _ _ _)) | refine M.SrcAt.set1 ?_ (t + 1) (by omega) (by omega))
  intro w1 hS1
  obtain ⟨m1, hm10, hm19, c21⟩ := hS1.c2
  have f21 := hS1.free 2
  have HS1 : Hid _ := hS1
  clear hS1
  go_region
  go_wp2
  refine M.gen_world (M.SrcAt w g (some ⟨b, off, none⟩) len cap) ?_ ?_
  · repeat (first | exact HS1.out | refine M.SrcAt.drew ?_ | refine M.SrcAt.set2 ?_ (bounds_u64 (wf_bits _ _ _ _)))
  intro w2 hS2
  obtain ⟨m2, hm20, hm29, c22⟩ := hS2.c2
  have f22 := hS2.free 2
  have HS2 : Hid _ := hS2
  clear hS2
  go_region
  go_wp2
  go_ret
  refine ⟨_, rfl, (M.draw_range _ most hmo hmo9).1, (M.draw_range _ most hmo hmo9).2, ?_⟩
  repeat (first | exact HS2.out | refine M.SrcAt.drew ?_ | refine M.SrcAt.set2 ?_ (bounds_u64 (wf_bits _ _ _ _)))
set_option maxRecDepth 100000 in
set_option maxHeartbeats 1600000 in
theorem n_end (w : World) (g len cap : Nat) (a : Option Addr) (t : Nat) (mix most : Int) (hS : M.SrcAt w g a len cap w) (_hlen : len ≤ 9223372036854775807) (ht : ¬ t < len) (_hm0 : 0 ≤ mix) (_hm9 : mix ≤ 18446744073709551615)
    (c0 : w.cell? ⟨g, 0, none⟩ = some (.slice a len cap)) (c1 : w.cell? ⟨g, 1, none⟩ = some (.int .i64 t)) (c2 : w.cell? ⟨g, 2, none⟩ = some (.int .u64 mix))
    (f2 : w.frozen? ⟨g, 2, none⟩ = false) (hmo : 1 < most) (hmo9 : most ≤ 9223372036854775807) :
    Calls Try.prog 46 #[.pointer (some ⟨g, 0, none⟩), .int .i64 most] w fun e w' => ∃ v : Int, e = .returned (.int .i64 v) ∧ 0 ≤ v ∧ v < most ∧ M.SrcAt w g a len cap w' := by
  have HS : Hid _ := hS
  clear hS
  go_enter Try.func46, Try.ntmps46
  go_wp2
  go_region
  go_wp2
  go_region
  go_wp2
  refine M.gen_world (M.SrcAt w g a len cap) ?_ ?_
  · repeat (first | exact HS.out | refine M.SrcAt.drew ?_ | refine M.SrcAt.set2 ?_ (bounds_u64 (wf_bits _ _ _ _)))
  intro w1 hS1
  obtain ⟨m1, hm10, hm19, c21⟩ := hS1.c2
  have f21 := hS1.free 2
  have HS1 : Hid _ := hS1
  clear hS1
  go_region
  go_wp2
  refine M.gen_world (M.SrcAt w g a len cap) ?_ ?_
  · repeat (first | exact HS1.out | refine M.SrcAt.drew ?_ | refine M.SrcAt.set2 ?_ (bounds_u64 (wf_bits _ _ _ _)))
  intro w2 hS2
  obtain ⟨m2, hm20, hm29, c22⟩ := hS2.c2
  have f22 := hS2.free 2
  have HS2 : Hid _ := hS2
  clear hS2
  go_region
  go_wp2
  go_ret
  refine ⟨_, rfl, (M.draw_range _ most hmo hmo9).1, (M.draw_range _ most hmo hmo9).2, ?_⟩
  repeat (first | exact HS2.out | refine M.SrcAt.drew ?_ | refine M.SrcAt.set2 ?_ (bounds_u64 (wf_bits _ _ _ _)))

theorem M.SrcAt.self {w0 : World} {g : Nat} {a : Option Addr} {len cap : Nat} {W : World} (h : M.SrcAt w0 g a len cap W) : M.SrcAt W g a len cap W :=
  ⟨h.c0, h.c1, h.c2, h.c3, h.free, World.grownBy.refl W _⟩
theorem M.SrcAt.onto {w0 : World} {g : Nat} {a : Option Addr} {len cap : Nat} {W W' : World} (h : M.SrcAt w0 g a len cap W) (k : M.SrcAt W g a len cap W') : M.SrcAt w0 g a len cap W' :=
  ⟨k.c0, k.c1, k.c2, k.c3, k.free, M.grown_trans h.keeps k.keeps⟩

set_option maxHeartbeats 400000 in
theorem n_small (w : World) (g : Nat) (most : Int) (hmo : most ≤ 1) :
    Calls Try.prog 46 #[.pointer (some ⟨g, 0, none⟩), .int .i64 most] w fun e w' => e = .returned (.int .i64 0) ∧ w = w' := by
  go_enter Try.func46, Try.ntmps46
  go_wp2
  go_ret
  exact ⟨rfl, rfl⟩

/-- 'n': a number from 0 to below most (0, if most is not above 1); the source alone has turned. The bytes lie in another block. -/
theorem n_any (w : World) (g len cap : Nat) (a : Option Addr) (most : Int) (hS : M.SrcAt w g a len cap w) (hR : M.IsRow w a len cap) (hmo9 : most ≤ 9223372036854775807) :
    Calls Try.prog 46 #[.pointer (some ⟨g, 0, none⟩), .int .i64 most] w fun e w' => ∃ v : Int, e = .returned (.int .i64 v) ∧ 0 ≤ v ∧ (1 < most → v < most) ∧ (most ≤ 1 → v = 0) ∧ M.SrcAt w g a len cap w' := by
  by_cases hmo : 1 < most
  · obtain ⟨t, ht, c1⟩ := hS.c1
    obtain ⟨m, hm0, hm9, c2⟩ := hS.c2
    have hlen := hR.len_le
    by_cases hlt : t < len
    · obtain ⟨b, off, rfl, hz⟩ := hR.2.2 (by omega)
      obtain ⟨z, hz0, hz9, cz⟩ := hz t hlt
      refine (n_read w g b off len cap t m z most hS hlen hlt hm0 hm9 hz0 hz9 hS.c0 c1 c2 (hS.free 1) (hS.free 2) cz hmo hmo9).mono ?_
      rintro e w' ⟨v, he, h0, h1, hS'⟩
      exact ⟨v, he, h0, fun _ => h1, fun h => by omega, hS'⟩
    · refine (n_end w g len cap a t m most hS hlen hlt hm0 hm9 hS.c0 c1 c2 (hS.free 2) hmo hmo9).mono ?_
      rintro e w' ⟨v, he, h0, h1, hS'⟩
      exact ⟨v, he, h0, fun _ => h1, fun h => by omega, hS'⟩
  · refine (n_small w g most (by omega)).mono ?_
    rintro e w' ⟨rfl, rfl⟩
    exact ⟨0, rfl, by omega, fun h => absurd h hmo, fun _ => rfl, hS⟩

/-- A source that can be drawn from, in the world W; its bytes lie in blocks below B. -/
structure M.Src (g : Nat) (a : Option Addr) (len cap : Nat) (W : World) : Prop where
  lies : M.SrcAt W g a len cap W
  row : M.IsRow W a len cap
  ne : 0 < len → ∀ x, a = some x → x.block < g

theorem M.IsRow.kept {W W' : World} {a : Option Addr} {len cap : Nat} {row : Option Nat} (h : M.IsRow W a len cap) (hg : W.grownBy W' row) (h2 : 0 < len → ∀ x, a = some x → some x.block ≠ row) : M.IsRow W' a len cap := by
  obtain ⟨h1, h3, hz⟩ := h
  refine ⟨h1, h3, fun hl => ?_⟩
  obtain ⟨b, off, rfl, hz2⟩ := hz hl
  refine ⟨b, off, rfl, fun i hi => ?_⟩
  obtain ⟨z, hz0, hz9, cz⟩ := hz2 i hi
  exact ⟨z, hz0, hz9, hg.cell cz (h2 hl ⟨b, off, none⟩ rfl)⟩
theorem M.Src.lt {W : World} {g : Nat} {a : Option Addr} {len cap : Nat} (h : M.Src g a len cap W) : g < W.heap.size := World.block_lt_of_cell? W _ h.lies.c0
/-- What is written to blocks behind the source's leaves it. -/
theorem M.Src.kept {W W' : World} {g : Nat} {a : Option Addr} {len cap : Nat} {row : Option Nat} (h : M.Src g a len cap W) (hg : W.grownBy W' row) (h1 : ∀ k, row = some k → g < k) : M.Src g a len cap W' := by
  obtain ⟨⟨c0, ⟨t1, ht, c1⟩, ⟨m, hm, hm', c2⟩, ⟨z3, hz3, hz3', c3⟩, hf, _⟩, hr, hn⟩ := h
  have hlt : g < W.heap.size := World.block_lt_of_cell? W _ c0
  have h1' : some g ≠ row := fun e => by have := h1 g e.symm; omega
  exact ⟨⟨hg.cell c0 h1', ⟨t1, ht, hg.cell c1 h1'⟩, ⟨m, hm, hm', hg.cell c2 h1'⟩, ⟨z3, hz3, hz3', hg.cell c3 h1'⟩, fun j => by
    rw [World.frozen?_of_block (w := W) (hg.block g hlt h1')]; exact hf j, World.grownBy.refl _ _⟩, hr.kept hg (fun hl x hx e => by have := h1 _ e.symm; have := hn hl x hx; omega), hn⟩

theorem src_n (w : World) (g len cap : Nat) (a : Option Addr) (most : Int) (h : M.Src g a len cap w) (hmo9 : most ≤ 9223372036854775807) :
    Calls Try.prog 46 #[.pointer (some ⟨g, 0, none⟩), .int .i64 most] w fun e w' => ∃ v : Int, e = .returned (.int .i64 v) ∧ 0 ≤ v ∧ (1 < most → v < most) ∧ (most ≤ 1 → v = 0) ∧ M.Src g a len cap w' ∧ w.grownBy w' (some g) := by
  refine (n_any w g len cap a most h.lies h.row hmo9).mono ?_
  rintro e w' ⟨v, he, h0, h1, h2, hS⟩
  exact ⟨v, he, h0, h1, h2, ⟨hS.self, h.row.kept hS.keeps (fun hl x hx => by have := h.ne hl x hx; simp; omega), h.ne⟩, hS.keeps⟩

set_option maxHeartbeats 400000 in
theorem src_one (w : World) (g len cap : Nat) (a : Option Addr) (most : Int) (h : M.Src g a len cap w) (hmo9 : most ≤ 9223372036854775807) :
    Calls Try.prog 44 #[.pointer (some ⟨g, 0, none⟩), .int .i64 most] w fun e w' => ∃ v : Bool, e = .returned (.bool v) ∧ M.Src g a len cap w' ∧ w.grownBy w' (some g) := by
  have HS : Hid _ := h
  clear h
  go_enter Try.func44, Try.ntmps44
  go_wp2_with (go_at_call 46; refine (src_n _ g len cap a most HS.out hmo9).mono ?_; rintro e w' ⟨v, rfl, h0, h1, h2, hS, hg⟩)
  go_ret
  exact ⟨_, rfl, hS, hg⟩

theorem M.SrcAt.set3 {w0 : World} {g : Nat} {a : Option Addr} {len cap : Nat} {W : World} (h : M.SrcAt w0 g a len cap W) {z : Int} (hz : 0 ≤ z ∧ z ≤ 12) : M.SrcAt w0 g a len cap (W.setCell ⟨g, 3, none⟩ (.int .i64 z)) := by
  obtain ⟨c0, ⟨t1, ht, c1⟩, ⟨m, hm, hm', c2⟩, ⟨z3, hz3, hz3', c3⟩, hf, hk⟩ := h
  refine ⟨?_, ⟨t1, ht, ?_⟩, ⟨m, hm, hm', ?_⟩, ⟨z, hz.1, hz.2, World.cell?_setCell_same _ _ _ c3⟩, fun j => by rw [World.frozen?_setCell]; exact hf j, M.grown_set hk _ _⟩
  · rw [World.cell?_setCell_other _ _ _ _ (by simp)]; exact c0
  · rw [World.cell?_setCell_other _ _ _ _ (by simp)]; exact c1
  · rw [World.cell?_setCell_other _ _ _ _ (by simp)]; exact c2
theorem M.SrcAt.set33 {w0 : World} {g : Nat} {a : Option Addr} {len cap : Nat} {W : World} (h : M.SrcAt w0 g a len cap W) {z y : Int} (hz : 0 ≤ z ∧ z ≤ 12) : M.SrcAt w0 g a len cap ((W.setCell ⟨g, 3, none⟩ (.int .i64 y)).setCell ⟨g, 3, none⟩ (.int .i64 z)) := by
  obtain ⟨c0, ⟨t1, ht, c1⟩, ⟨m, hm, hm', c2⟩, ⟨z3, hz3, hz3', c3⟩, hf, hk⟩ := h
  refine ⟨?_, ⟨t1, ht, ?_⟩, ⟨m, hm, hm', ?_⟩, ⟨z, hz.1, hz.2, World.cell?_setCell_same _ _ _ (World.cell?_setCell_same _ _ _ c3)⟩, fun j => by rw [World.frozen?_setCell, World.frozen?_setCell]; exact hf j, M.grown_set (M.grown_set hk _ _) _ _⟩
  · rw [World.cell?_setCell_other _ _ _ _ (by simp), World.cell?_setCell_other _ _ _ _ (by simp)]; exact c0
  · rw [World.cell?_setCell_other _ _ _ _ (by simp), World.cell?_setCell_other _ _ _ _ (by simp)]; exact c1
  · rw [World.cell?_setCell_other _ _ _ _ (by simp), World.cell?_setCell_other _ _ _ _ (by simp)]; exact c2

set_option maxRecDepth 100000 in
set_option maxHeartbeats 1600000 in
theorem source_any (w : World) (a : Option Addr) (len cap : Nat) (hR : M.IsRow w a len cap) :
    Calls Try.prog 41 #[.slice a len cap] w fun e w' => e = .returned (.pointer (some ⟨w.heap.size, 0, none⟩)) ∧ M.Src w.heap.size a len cap w' ∧ Below w.heap.size w w' := by
  have hlen := hR.len_le
  have hS0 : M.SrcAt (w.alloc (.cells #[.slice a len cap, .int .i64 0, .int .u64 88172645463325252, .int .i64 0] 104)) w.heap.size a len cap (w.alloc (.cells #[.slice a len cap, .int .i64 0, .int .u64 88172645463325252, .int .i64 0] 104)) :=
    ⟨by simp, ⟨0, Nat.zero_le _, by simp⟩, ⟨88172645463325252, by omega, by omega, by simp⟩, ⟨0, by omega, by omega, by simp⟩, fun j => by simp, World.grownBy.refl _ _⟩
  have HS0 : Hid _ := hS0
  have HR : Hid (M.IsRow w a len cap) := hR
  clear hS0 hR
  go_enter Try.func41, Try.ntmps41
  go_wp2
  go_loopw [4] (fun i wr => ∃ k : Nat, i = .int .i64 k ∧ k ≤ len ∧ Hid (M.SrcAt (w.alloc (.cells #[.slice a len cap, .int .i64 0, .int .u64 88172645463325252, .int .i64 0] 104)) w.heap.size a len cap wr)) (fun i _ => len - (intOf i).toNat)
  case atStart => exact ⟨0, rfl, Nat.zero_le _, HS0⟩
  case round =>
    obtain ⟨k, rfl, hk, HS⟩ := hrel
    by_cases hlt1 : k < len ∧ k < 64
    · obtain ⟨hkl, hk64⟩ := hlt1
      have hbl0 := HR.out.lt (by omega)
      obtain ⟨b, off, rfl, hz⟩ := HR.out.2.2 (by omega)
      obtain ⟨z, hz0, hz9, cz⟩ := hz k hkl
      have hbl : b < w.heap.size := hbl0 _ rfl
      clear hbl0
      have d1 : decide ((k : Int) < 64) = true := decide_eq_true (by omega)
      have cz1 : wr.cell? ⟨b, off + k, none⟩ = some (.int .u8 z) := by
        refine HS.out.keeps.cell ?_ (fun e => by have := Option.some.inj e; simp only at this; omega)
        rw [World.cell?_alloc_lt _ _ ⟨b, off + k, none⟩ hbl]; exact cz
      obtain ⟨m, hm0, hm9, c2⟩ := HS.out.c2
      have f2 := HS.out.free 2
      clear cz hz hbl
      go_wp2
      go_region
      go_wp2
      go_roundw
      case rel => exact ⟨k + 1, by go_num, by omega, M.SrcAt.set2 HS.out.drew (bounds_u64 (wf_wrap _ _))⟩
      case measure => simp [intOf]; omega
    · have fin : ∀ W, M.SrcAt (w.alloc (.cells #[.slice a len cap, .int .i64 0, .int .u64 88172645463325252, .int .i64 0] 104)) w.heap.size a len cap W → M.Src w.heap.size a len cap W ∧ Below w.heap.size w W := fun W hW => by
        have hb : Below w.heap.size w W := ((Below.refl _ _).alloc (Nat.le_refl _) _).grown hW.keeps (by simp) (fun k hk => by have := Option.some.inj hk; omega)
        refine ⟨⟨hW.self, ?_, fun hl x hx => HR.out.lt hl x hx⟩, hb⟩
        have h1 := HR.out.kept (World.grownBy_alloc w (.cells #[.slice a len cap, .int .i64 0, .int .u64 88172645463325252, .int .i64 0] 104) none) (fun _ x hx => by simp)
        exact h1.kept hW.keeps (fun hl x hx => by have := HR.out.lt hl x hx; simp; omega)
      have FIN : Hid _ := fin
      clear fin
      obtain ⟨z3, hz3, hz3', c3⟩ := HS.out.c3
      have f3 := HS.out.free 3
      rcases (show (¬ k < len ∧ len / 20 ≤ 12) ∨ (¬ k < len ∧ 12 < len / 20) ∨ (k < len ∧ ¬ k < 64 ∧ len / 20 ≤ 12) ∨ (k < len ∧ ¬ k < 64 ∧ 12 < len / 20) by omega) with ⟨hA, hB⟩ | ⟨hA, hB⟩ | ⟨hA, hC, hB⟩ | ⟨hA, hC, hB⟩
      all_goals
        first | (have d1 : decide ((k : Int) < 64) = false := decide_eq_false (by omega)) | skip
        clear hlt1
        go_wp2
        go_ret
        first
          | exact ⟨rfl, FIN.out _ (M.SrcAt.set3 HS.out ⟨by omega, by omega⟩)⟩
          | exact ⟨rfl, FIN.out _ (M.SrcAt.set33 HS.out ⟨by omega, by omega⟩)⟩
end Go.Proofs.Ytappficbjjkmiaa

/-
  Draws of numbers at some limit.
-/
namespace Go.Proofs.Ytappficbjjkmiaa
open Go.RowKit

theorem M.Src.alloc {W : World} {g : Nat} {a : Option Addr} {len cap : Nat} (h : M.Src g a len cap W) (o : Obj) : M.Src g a len cap (W.alloc o) :=
  h.kept (World.grownBy_alloc W o none) (fun k hk => by simp at hk)

theorem M.edges (w : World) (T : TypeId) (k : Nat) (hk : k < 14) : ∃ z : Int, -9223372036854775808 ≤ z ∧ z ≤ 9223372036854775807 ∧
    (w.alloc (.cells #[.int .i64 0, .int .i64 1, .int .i64 (-1), .int .i64 2, .int .i64 1000, .int .i64 1001, .int .i64 2147483648, .int .i64 2147483647, .int .i64 (-2147483648), .int .i64 4611686018427387904, .int .i64 9223372036854775807, .int .i64 (-9223372036854775808), .int .i64 1000000, .int .i64 1000001] T)).cell? ⟨w.heap.size, k, none⟩ = some (.int .i64 z) := by
  rw [World.cell?_alloc_mark]
  rcases (show k = 0 ∨ k = 1 ∨ k = 2 ∨ k = 3 ∨ k = 4 ∨ k = 5 ∨ k = 6 ∨ k = 7 ∨ k = 8 ∨ k = 9 ∨ k = 10 ∨ k = 11 ∨ k = 12 ∨ k = 13 by omega) with rfl | rfl | rfl | rfl | rfl | rfl | rfl | rfl | rfl | rfl | rfl | rfl | rfl | rfl
  all_goals exact ⟨_, by omega, by omega, rfl⟩

set_option maxRecDepth 100000 in
set_option maxHeartbeats 800000 in
theorem src_edge (w : World) (g len cap : Nat) (a : Option Addr) (h : M.Src g a len cap w) :
    Calls Try.prog 57 #[.pointer (some ⟨g, 0, none⟩)] w fun e w' => ∃ v : Int, e = .returned (.int .i64 v) ∧ -9223372036854775808 ≤ v ∧ v ≤ 9223372036854775807 ∧ M.Src g a len cap w' ∧ w.grownBy w' (some g) := by
  have HS : Hid (M.Src g a len cap w) := h
  clear h
  go_enter Try.func57, Try.ntmps57
  go_wp2_with fail
  refine (src_n _ g len cap a 14 (HS.out.alloc _) (by omega)).mono ?_
  rintro e w1 ⟨v, rfl, h0, h1, h2, hS, hg⟩
  have h14 := h1 (by omega)
  obtain ⟨k, rfl⟩ := Int.eq_ofNat_of_zero_le h0
  obtain ⟨z, hz0, hz9, cz⟩ := M.edges w 2 k (by omega)
  have cz1 := hg.cell cz (by have := HS.out.lt; simp; omega)
  have HS1 : Hid (M.Src g a len cap w1) := hS
  have HG : Hid _ := hg
  clear hS hg cz h1 h2
  go_wp2
  go_ret
  exact ⟨z, rfl, hz0, hz9, HS1.out, M.grown_trans (World.grownBy_alloc w _ (some g)) HG.out⟩
end Go.Proofs.Ytappficbjjkmiaa

/-
  A row of numbers that a call owns.
-/
namespace Go.Proofs.Ytappficbjjkmiaa
open Go.RowKit

theorem Try.infoN : (Try.prog.info? 2).map (fun i => (i.zero, i.size, i.bytes)) = some (some (.int .i64 0), 1, 8) := by kernel_rfl
def M.nv (n : Int) : Value := .int .i64 n
/-- A slice that the call owns holds these numbers. -/
def M.OwnN (w : World) (base : Nat) (v : Value) (zs : List Int) : Prop := w.ownsRow base 2 1 v zs.length (zs.map M.nv)
theorem M.OwnN.nil (w : World) (base : Nat) : M.OwnN w base (.slice none 0 0) [] := ⟨rfl, .inl ⟨rfl, rfl⟩⟩
theorem M.OwnN.below {w W : World} {base : Nat} {v : Value} {zs : List Int} (h : M.OwnN w base v zs) (hb : Below w.heap.size w W) : M.OwnN W base v zs := by
  obtain ⟨hl, h0 | ⟨g, cap, cur, hv, hg, hh, hn, hc, hz, ht⟩⟩ := h
  · exact ⟨hl, .inl h0⟩
  · exact ⟨hl, .inr ⟨g, cap, cur, hv, hg, by rw [hb.block g (Array.getElem?_eq_some_iff.1 hh).1]; exact hh, hn, hc, hz, ht⟩⟩
theorem M.OwnN.down {w : World} {b b' : Nat} {v : Value} {zs : List Int} (h : M.OwnN w b v zs) (hb : b' ≤ b) : M.OwnN w b' v zs := by
  obtain ⟨hl, h0 | ⟨g, cap, cur, hv, hg, hr⟩⟩ := h
  · exact ⟨hl, .inl h0⟩
  · exact ⟨hl, .inr ⟨g, cap, cur, hv, Nat.le_trans hb hg, hr⟩⟩
theorem M.OwnN.more {w : World} {base : Nat} {v : Value} {zs : List Int} {z : Int} (h : w.ownsRow base 2 1 v (zs.length + 1) (zs.map M.nv ++ [M.nv z])) : M.OwnN w base v (zs ++ [z]) := by
  unfold M.OwnN
  rw [List.length_append, List.map_append]
  exact h
/-- The numbers lie in a row of a block that may be written. -/
def M.NumsAt (w : World) (g cap : Nat) (zs : List Int) : Prop := ∃ cur, w.heap[g]? = some (.cells cur 2 (0, 0)) ∧ zs.length ≤ cap ∧ cur.size = cap ∧ cur.toList.take zs.length = zs.map M.nv
theorem M.OwnN.at {w : World} {base : Nat} {v : Value} {zs : List Int} (h : M.OwnN w base v zs) : (v = .slice none 0 0 ∧ zs = []) ∨ ∃ g cap, v = .slice (some ⟨g, 0, none⟩) zs.length cap ∧ base ≤ g ∧ cap ≤ maxLen ∧ M.NumsAt w g cap zs := by
  obtain ⟨hl, ⟨h0, h1⟩ | ⟨g, cap, cur, hv, hg, hh, hn, hc, hz, ht⟩⟩ := h
  · exact .inl ⟨h0, List.eq_nil_of_length_eq_zero h1⟩
  · exact .inr ⟨g, cap, hv, hg, hc, cur, hh, hn, by rw [hz, Nat.mul_one], by rw [← ht, Nat.mul_one]⟩
theorem M.NumsAt.own {w : World} {g cap base : Nat} {zs : List Int} (h : M.NumsAt w g cap zs) (hc : cap ≤ maxLen) (hg : base ≤ g) : M.OwnN w base (.slice (some ⟨g, 0, none⟩) zs.length cap) zs := by
  obtain ⟨cur, hh, hn, hz, ht⟩ := h
  exact ⟨by simp, .inr ⟨g, cap, cur, rfl, hg, hh, hn, hc, by rw [hz, Nat.mul_one], by rw [Nat.mul_one, ht]⟩⟩
theorem M.NumsAt.lt {w : World} {g cap : Nat} {zs : List Int} (h : M.NumsAt w g cap zs) : g < w.heap.size := by
  obtain ⟨cur, hh, _⟩ := h
  exact (Array.getElem?_eq_some_iff.1 hh).1
theorem M.NumsAt.cell {w : World} {g cap : Nat} {zs : List Int} (h : M.NumsAt w g cap zs) (i : Nat) (hi : i < zs.length) : w.cell? ⟨g, i, none⟩ = some (.int .i64 zs[i]) := by
  obtain ⟨cur, hh, hn, hz, ht⟩ := h
  have e : (zs.map M.nv)[i]? = some (.int .i64 zs[i]) := by simp [hi, M.nv]
  rw [← ht, List.getElem?_take_of_lt hi] at e
  simp only [World.cell?, hh]
  simpa using e
theorem M.NumsAt.free {w : World} {g cap : Nat} {zs : List Int} (h : M.NumsAt w g cap zs) (i : Nat) : w.frozen? ⟨g, i, none⟩ = false := by
  obtain ⟨cur, hh, _⟩ := h
  simp [World.frozen?, hh]
theorem M.NumsAt.of_block {w w' : World} {g cap : Nat} {zs : List Int} (h : M.NumsAt w g cap zs) (hb : w'.heap[g]? = w.heap[g]?) : M.NumsAt w' g cap zs := by
  obtain ⟨cur, hh, hr⟩ := h
  exact ⟨cur, hb.trans hh, hr⟩
theorem M.NumsAt.set {w : World} {g cap : Nat} {zs : List Int} (h : M.NumsAt w g cap zs) (i : Nat) (z : Int) : M.NumsAt (w.setCell ⟨g, i, none⟩ (.int .i64 z)) g cap (zs.set i z) := by
  obtain ⟨cur, hh, hn, hz, ht⟩ := h
  refine ⟨cur.setIfInBounds i (.int .i64 z), ?_, by rw [List.length_set]; exact hn, by rw [Array.size_setIfInBounds]; exact hz, ?_⟩
  · simp only [World.setCell, Array.getElem?_modify, hh]
    simp
  · rw [List.length_set, Array.toList_setIfInBounds, List.take_set, ht, List.map_set]
    rfl
theorem M.grownS {w0 W : World} {g : Nat} (h : w0.grownBy W (some g)) (j : Nat) (v : Value) : w0.grownBy (W.setCell ⟨g, j, none⟩ v) (some g) :=
  ⟨h.os, h.tape, h.output, by have := h.size; simp [World.setCell]; omega, fun k hk hne => by
    rw [Below.heap_setCell W ⟨g, j, none⟩ v k (fun e => hne (by rw [e]))]; exact h.block k hk hne⟩
end Go.Proofs.Ytappficbjjkmiaa

/-
  What the laws' helpers on numbers do: eqInt64S, markInt64S.
-/
namespace Go.Proofs.Ytappficbjjkmiaa
open Go.RowKit

theorem M.hidn {p : Prop} (h : p) : Hid p := h
/-- A slice of numbers, as it is read. -/
def M.NV (w : World) (a : Option Addr) (len : Nat) (zs : List Int) : Prop := len = zs.length ∧ (0 < len → ∃ b off, a = some ⟨b, off, none⟩ ∧ ∀ i (h : i < zs.length), w.cell? ⟨b, off + i, none⟩ = some (.int .i64 zs[i]))
theorem M.OwnN.nv {w : World} {base : Nat} {v : Value} {zs : List Int} (h : M.OwnN w base v zs) : ∃ a cap, v = .slice a zs.length cap ∧ M.NV w a zs.length zs := by
  rcases h.at with ⟨rfl, rfl⟩ | ⟨g, cap, rfl, hg, hc, hN⟩
  · exact ⟨none, 0, rfl, rfl, fun h => absurd h (Nat.lt_irrefl _)⟩
  · exact ⟨_, cap, rfl, rfl, fun _ => ⟨g, 0, rfl, fun i hi => by rw [Nat.zero_add]; exact hN.cell i hi⟩⟩
theorem M.OwnN.grown {W W' : World} {base : Nat} {v : Value} {zs : List Int} {row : Option Nat} (h : M.OwnN W base v zs) (hg : W.grownBy W' row) (hne : ∀ j, v.ownBlock = some j → some j ≠ row) : M.OwnN W' base v zs := by
  obtain ⟨hl, h0 | ⟨g, cap, cur, hv, hb, hh, hr⟩⟩ := h
  · exact ⟨hl, .inl h0⟩
  · exact ⟨hl, .inr ⟨g, cap, cur, hv, hb, by rw [hg.block g (Array.getElem?_eq_some_iff.1 hh).1 (hne g (by rw [hv]; rfl))]; exact hh, hr⟩⟩

set_option maxRecDepth 100000 in
set_option maxHeartbeats 1600000 in
theorem eqInt64S_nv (w : World) (a a' : Option Addr) (len cap cap' : Nat) (zs : List Int) (h : M.NV w a len zs) (h' : M.NV w a' len zs) (hl : len ≤ 2000000) :
    Calls Try.prog 30 #[.slice a len cap, .slice a' len cap'] w fun e w' => e = .returned (.bool true) ∧ Below w.heap.size w w' := by
  have HF := M.hidn h
  have HG := M.hidn h'
  clear h h'
  have d0 : ((len : Int) != (len : Int)) = false := by simp
  go_enter Try.func30, Try.ntmps30
  go_wp2
  go_loopw [5] (fun i wr => ∃ k : Nat, i = .int .i64 k ∧ k ≤ len ∧ Hid (Below w.heap.size w wr)) (fun i _ => len - (intOf i).toNat)
  case atStart => exact ⟨0, rfl, Nat.zero_le _, Below.refl _ _⟩
  case round =>
    obtain ⟨k, rfl, hk, HBr⟩ := hrel
    by_cases hlt : k < len
    · obtain ⟨hfl, hfa⟩ := HF.out
      obtain ⟨b, off, rfl, hat⟩ := hfa (by omega)
      have c0 := hat k (by omega)
      obtain ⟨hfl', hfa'⟩ := HG.out
      obtain ⟨b', off', rfl, hat'⟩ := hfa' (by omega)
      have e0 := hat' k (by omega)
      generalize zs[k]'(by omega) = z at c0 e0
      have c1 := (HBr.out.cell (p := ⟨b, off + k, none⟩) (World.block_lt_of_cell? w _ c0)).trans c0
      have e1 := (HBr.out.cell (p := ⟨b', off' + k, none⟩) (World.block_lt_of_cell? w _ e0)).trans e0
      have dz : (z != z) = false := by simp
      have HBD : Hid (Below w.heap.size w wr.drew) := HBr.out.trans (((Below.refl _ _).drew : Below wr.heap.size wr wr.drew).mono HBr.out.size)
      clear hat hfa hfl hat' hfa' hfl' c0 e0
      go_wp2_with fail
      go_region
      go_wp2
      refine ⟨⟨k + 1, by go_num, by omega, ?_⟩, by simp [intOf]; omega⟩
      exact HBD
    · go_wp2
      go_ret
      exact ⟨rfl, HBr.out⟩
theorem eqInt64S_same (w : World) (b b' : Nat) (v v' : Value) (zs : List Int) (h : M.OwnN w b v zs) (h' : M.OwnN w b' v' zs) (hl : zs.length ≤ 1000000) :
    Calls Try.prog 30 #[v, v'] w fun e w' => e = .returned (.bool true) ∧ Below w.heap.size w w' := by
  obtain ⟨a, cap, rfl, hv⟩ := h.nv
  obtain ⟨a', cap', rfl, hv'⟩ := h'.nv
  exact eqInt64S_nv w a a' _ cap cap' zs hv hv' (by omega)

/-- The numbers from 1 on. -/
def M.cnt (n : Nat) : List Int := (List.range n).map fun (i : Nat) => (i : Int) + 1
theorem M.cnt_len (n : Nat) : (M.cnt n).length = n := by simp [M.cnt]
theorem M.cnt_at {n i : Nat} (h : i < (M.cnt n).length) : (M.cnt n)[i] = (i : Int) + 1 := by simp [M.cnt]
set_option maxRecDepth 100000 in
set_option maxHeartbeats 1600000 in
theorem markInt64S_at (w : World) (g cap : Nat) (zs : List Int) (h : M.NumsAt w g cap zs) (hl : zs.length ≤ 1000000) :
    Calls Try.prog 32 #[.slice (some ⟨g, 0, none⟩) zs.length cap, .int .i64 1] w fun e w' => e = .returned (.int .i64 ((zs.length : Int) + 1)) ∧ M.NumsAt w' g cap (M.cnt zs.length) ∧ w.grownBy w' (some g) := by
  have HN := M.hidn h
  obtain ⟨n, hn⟩ : ∃ n, n = zs.length := ⟨_, rfl⟩
  have HZ := M.hidn hn
  rw [← hn] at hl ⊢
  clear h hn
  go_enter Try.func32, Try.ntmps32
  go_wp2
  go_loopw [1, 5] (fun q i wr => ∃ (k : Nat) (L : List Int), i = .int .i64 k ∧ q = .int .i64 ((k : Int) + 1) ∧ k ≤ n ∧ Hid (L.length = n ∧ ∀ t (h : t < L.length), t < k → L[t] = (t : Int) + 1) ∧ Hid (M.NumsAt wr g cap L) ∧ Hid (w.grownBy wr (some g))) (fun _ i _ => n - (intOf i).toNat)
  case atStart => exact ⟨0, zs, rfl, rfl, Nat.zero_le _, ⟨HZ.out.symm, fun t _ h => absurd h (Nat.not_lt_zero _)⟩, HN, World.grownBy.refl _ _⟩
  case round =>
    obtain ⟨k, L, rfl, rfl, hk, HL, HNr, HG⟩ := hrel
    by_cases hlt : k < n
    · have hkL : k < L.length := by rw [HL.out.1]; exact hlt
      have c0 := HNr.out.cell k hkL
      generalize L[k]'hkL = z at c0
      have f0 := HNr.out.free k
      have HL2 : Hid ((L.set k ((k : Int) + 1)).length = n ∧ ∀ t (h : t < (L.set k ((k : Int) + 1)).length), t < k + 1 → (L.set k ((k : Int) + 1))[t] = (t : Int) + 1) := by
        refine ⟨by rw [List.length_set]; exact HL.out.1, fun t ht htk => ?_⟩
        rw [List.length_set] at ht
        by_cases e : t = k
        · subst e; rw [List.getElem_set_self]
        · rw [List.getElem_set_ne (by omega)]; exact HL.out.2 t ht (by omega)
      have HN2 := M.hidn (HNr.out.set k ((k : Int) + 1))
      have HG2 := M.hidn (M.grownS HG.out k (.int .i64 ((k : Int) + 1)))
      clear hkL
      go_wp2
      go_roundw
      case rel => exact ⟨k + 1, L.set k ((k : Int) + 1), by go_num, by go_num, by omega, HL2, HN2, HG2⟩
      case measure => simp [intOf]; omega
    · have HE : Hid (L = M.cnt n) := by
        show _ = _
        apply List.ext_getElem
        · rw [M.cnt_len]; exact HL.out.1
        · intro i h1 h2
          rw [M.cnt_at h2]
          exact HL.out.2 i h1 (by rw [HL.out.1] at h1; omega)
      obtain rfl : k = n := by omega
      go_wp2
      go_ret
      exact ⟨rfl, by rw [← HE.out]; exact HNr.out, HG.out⟩
theorem markInt64S_own (w : World) (base : Nat) (v : Value) (zs : List Int) (h : M.OwnN w base v zs) (hl : zs.length ≤ 1000000) :
    Calls Try.prog 32 #[v, .int .i64 1] w fun e w' => e = .returned (.int .i64 ((zs.length : Int) + 1)) ∧ M.OwnN w' base v (M.cnt zs.length) ∧ w.grownBy w' v.ownBlock := by
  rcases h.at with ⟨rfl, rfl⟩ | ⟨g, cap, rfl, hg, hc, hN⟩
  · go_enter Try.func32, Try.ntmps32
    go_wp2
    go_loopw [1, 5] (fun q i wr => q = .int .i64 1 ∧ i = .int .i64 0 ∧ wr = w) (fun _ _ _ => 0)
    case atStart => exact ⟨rfl, rfl, rfl⟩
    case round =>
      obtain ⟨rfl, rfl, rfl⟩ := hrel
      go_wp2
      go_ret
      exact ⟨rfl, M.OwnN.nil _ _, World.grownBy.refl _ _⟩
  · refine (markInt64S_at w g cap zs hN hl).mono ?_
    rintro e w' ⟨rfl, hN', hg'⟩
    refine ⟨rfl, ?_, hg'⟩
    have := hN'.own (base := base) hc hg
    rwa [M.cnt_len] at this
end Go.Proofs.Ytappficbjjkmiaa

/-
  What l07Some of the specification draws: some numbers, no more than there are tapes.
-/
namespace Go.Proofs.Ytappficbjjkmiaa
open Go.RowKit

theorem M.hds {p : Prop} (h : p) : Hid p := h
theorem M.srcB {W W' : World} {g : Nat} {a : Option Addr} {len cap : Nat} (h : M.Src g a len cap W) (hb : Below W.heap.size W W') : M.Src g a len cap W' :=
  h.kept (row := none) ⟨hb.os, hb.tape, hb.output, hb.size, fun i hi _ => hb.block i hi⟩ (fun k hk => by simp at hk)
theorem M.grB {w W W' : World} {g : Nat} (h : w.grownBy W (some g)) (hb : Below W.heap.size W W') : w.grownBy W' (some g) :=
  ⟨hb.os.trans h.os, hb.tape.trans h.tape, hb.output.trans h.output, Nat.le_trans h.size hb.size, fun i hi hne => (hb.block i (Nat.lt_of_lt_of_le hi h.size)).trans (h.block i hi hne)⟩
theorem M.grO {w W W1 : World} {g : Nat} {row : Option Nat} (h : w.grownBy W (some g)) (k : W.grownBy W1 row) (ho : ∀ j, row = some j → w.heap.size ≤ j) : w.grownBy W1 (some g) :=
  ⟨k.os.trans h.os, k.tape.trans h.tape, k.output.trans h.output, Nat.le_trans h.size k.size, fun i hi hne => (k.block i (Nat.lt_of_lt_of_le hi h.size) (fun e => by have := ho i e.symm; omega)).trans (h.block i hi hne)⟩
/-- A row of one number that was just made. -/
theorem M.one_row (W : World) (base : Nat) (hb : base ≤ W.heap.size) (k : Int) : (W.alloc (.cells #[.int .i64 k] 2)).ownsRow base 2 1 (.slice (some ⟨W.heap.size, 0, none⟩) 1 1) 1 [.int .i64 k] :=
  ⟨rfl, .inr ⟨W.heap.size, 1, #[.int .i64 k], rfl, hb, heap_alloc_new _ _, Nat.le_refl _, by decide, rfl, rfl⟩⟩
theorem M.oneNs (zs : List Int) : ∀ v ∈ zs.map M.nv, v.oneCell' = true := fun v hv => by
  obtain ⟨s, -, rfl⟩ := List.mem_map.1 hv
  rfl

set_option maxRecDepth 100000 in
set_option maxHeartbeats 1600000 in
theorem src_some (w : World) (g len cap : Nat) (a : Option Addr) (ta : Option Addr) (n tc : Nat) (h : M.Src g a len cap w) (hn : n ≤ 400) :
    Calls Try.prog 43 #[.pointer (some ⟨g, 0, none⟩), .slice ta n tc] w fun e w' => ∃ (h : Nat) (zs : List Int) (c : Nat), e = .returned (.slice (some ⟨h, 0, none⟩) zs.length c) ∧ zs.length ≤ n ∧ zs.length ≤ c ∧ M.OwnN w' w.heap.size (.slice (some ⟨h, 0, none⟩) zs.length c) zs ∧ M.Src g a len cap w' ∧ w.grownBy w' (some g) := by
  obtain ⟨i0, hi, hz0, hz1, hz2⟩ := info_parts Try.infoN
  have hgw := h.lt
  have HS := M.hds h
  clear h
  have A0 : Hid (M.OwnN (w.alloc (.cells #[] 2)) w.heap.size (.slice (some ⟨w.heap.size, 0, none⟩) 0 0) []) := M.NumsAt.own (zs := []) ⟨#[], heap_alloc_new _ _, Nat.le_refl _, rfl, rfl⟩ (Nat.zero_le _) (Nat.le_refl _)
  go_enter Try.func43, Try.ntmps43
  go_wp2
  go_loopw [5, 6] (fun v i wr => ∃ (k : Nat) (acc : List Int) (h c : Nat), i = .int .i64 k ∧ v = .slice (some ⟨h, 0, none⟩) acc.length c ∧ k ≤ n ∧ acc.length ≤ k ∧ acc.length ≤ c ∧ Hid (M.OwnN wr w.heap.size (.slice (some ⟨h, 0, none⟩) acc.length c) acc) ∧ Hid (M.Src g a len cap wr) ∧ Hid (w.grownBy wr (some g))) (fun _ i _ => n - (intOf i).toNat)
  case atStart => exact ⟨0, [], _, 0, rfl, rfl, Nat.zero_le _, Nat.le_refl _, Nat.le_refl _, A0, HS.out.alloc _, World.grownBy_alloc w _ (some g)⟩
  case round =>
    obtain ⟨k, acc, h, c, rfl, rfl, hk, hac, hcc, HO, HSr, HG⟩ := hrel
    by_cases hlt : k < n
    case neg =>
      go_wp2
      go_ret
      exact ⟨h, acc, c, rfl, by omega, hcc, HO.out, HSr.out, HG.out⟩
    go_wp2_with fail
    refine (src_one _ g len cap a 3 HSr.out (by omega)).mono ?_
    rintro e w1 ⟨b, rfl, hS, hg⟩
    have HO1 : Hid (M.OwnN w1 w.heap.size (.slice (some ⟨h, 0, none⟩) acc.length c) acc) := HO.out.grown hg (fun j hj e => by have := (World.ownsRow.lt HO.out j hj).1; have := Option.some.inj e; omega)
    have HS1 := M.hds hS
    have HG1 := M.hds (M.grown_trans HG.out hg)
    have hsz : w.heap.size ≤ w1.heap.size := HG1.out.size
    clear hS hg HO
    cases b
    case true =>
      go_wp2
      go_roundw
      case rel => exact ⟨k + 1, acc, h, c, by go_num, rfl, by omega, by omega, hcc, HO1, HS1, HG1⟩
      case measure => simp [intOf]; omega
    have HN : Hid (∀ j u, (acc.map M.nv)[j]? = some u → (w1.alloc (.cells #[.int .i64 (k : Int)] 2)).cell? ((⟨h, 0, none⟩ : Addr).add j) = some u) := (World.ownsRow.alloc HO1.out _).cells (g := h) rfl
    have HR : Hid ((w1.alloc (.cells #[.int .i64 (k : Int)] 2)).ownsRow w.heap.size 2 1 (.slice (some ⟨w1.heap.size, 0, none⟩) 1 1) 1 [.int .i64 (k : Int)]) := M.one_row w1 w.heap.size hsz k
    go_wp2_with (at_builtin; refine wpList_append_own _ rfl (.tmp 18) (.tmp 19) 24 rfl w.heap.size 2 i0 (.int .i64 0) 1 8 Try.underlying24 hi hz0 hz1 hz2 rfl (by decide) (.slice (some ⟨w1.heap.size, 0, none⟩) 1 1) 1 [.int .i64 (k : Int)] rfl HR.out ⟨h, 0, none⟩ acc.length c (acc.map M.nv) rfl (by rw [List.length_map, Nat.mul_one]) HN.out (M.oneNs _) ?c3 ?c4 ?c5 ?_)
    case c3 => unfold maxLen; omega
    case c4 => omega
    case c5 => simp; omega
    intro v' w2 hown' hgrow _
    have HO2 : M.OwnN w2 w.heap.size v' ((k : Int) :: acc) := by
      unfold M.OwnN
      rw [List.length_cons, Nat.add_comm]
      exact hown'
    obtain ⟨e, e2⟩ | ⟨h2, c2, rfl, -, -, hat⟩ := HO2.at
    · cases e2
    have hc2 : acc.length + 1 ≤ c2 := by obtain ⟨cur, -, hn2, -⟩ := hat; exact hn2
    have HO3 := M.hds HO2
    have hgall : w1.grownBy w2 (some w1.heap.size) := ((World.grownBy_alloc w1 _ none).but _).trans hgrow
    have HS2 : Hid (M.Src g a len cap w2) := HS1.out.kept hgall (fun k hk => by have := Option.some.inj hk; have := HS1.out.lt; omega)
    have HG2 : Hid (w.grownBy w2 (some g)) := M.grO HG1.out hgall (fun k hk => by have := Option.some.inj hk; omega)
    clear hown' hgrow hgall HO2 hat
    go_wp2
    go_roundw
    case rel => exact ⟨k + 1, (k : Int) :: acc, h2, c2, by go_num, rfl, by omega, by rw [List.length_cons]; omega, by rw [List.length_cons]; exact hc2, HO3, HS2, HG2⟩
    case measure => simp [intOf]; omega
end Go.Proofs.Ytappficbjjkmiaa
