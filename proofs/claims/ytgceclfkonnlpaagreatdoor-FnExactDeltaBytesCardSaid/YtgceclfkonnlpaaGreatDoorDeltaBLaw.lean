/-
  For every delta the law of DeltaBytes returns true.
-/
import Derived.Test.YtgceclfkonnlpaaGreatDoorDeltaWalks
import Derived.Test.YtgceclfkonnlpaaGreatDoorIDeltaB
import Derived.Test.YtgceclfkonnlpaaGreatDoorSDeltaB
import Derived.Deep.RegionWith
namespace Go.Proofs.YtgceclfkonnlpaaGreatDoor
open Go.RowKit

set_option maxRecDepth 100000 in
set_option maxHeartbeats 1600000 in
theorem fnExactDeltaBytes_walk (a0 : Option Addr) (len0 cap0 : Nat) (ss0 : List ByteArray) (b0 : Option Addr) (m0 d0 : Nat) (fs0 : List M.FileD) (w : World) (h1 : M.Strs w a0 len0 cap0 ss0) (o1 : ∀ s ∈ ss0, s.size ≤ maxLen) (h2 : M.Files w b0 m0 d0 fs0) (o2 : ∀ f ∈ fs0, M.fok f) (hm : M.ml w) (hw : M.pw w) (ht : M.tz w) :
    Calls Tryz.prog 4 #[.agg #[.slice a0 len0 cap0, .slice b0 m0 d0]] w fun e w' => e = .returned (.bool true) ∧ Below w.heap.size w w' := by
  have HS := M.hidd h1
  have HF := M.hidd h2
  have O1 := M.hidd o1
  have O2 := M.hidd o2
  have HM : Hid (M.ml w ∧ M.pw w ∧ M.tz w) := ⟨hm, hw, ht⟩
  obtain ⟨r, hr⟩ : ∃ r : Bool, r = true ↔ M.DeltaR ss0 fs0 := by
    by_cases hex : M.DeltaR ss0 fs0
    · exact ⟨true, fun _ => hex, fun _ => rfl⟩
    · exact ⟨false, fun h => (by cases h), fun h => absurd h hex⟩
  have HR := M.hidd hr
  obtain ⟨y, hy⟩ : ∃ y, y = if r = true then M.bytesB ss0 fs0 else (⟨#[]⟩ : ByteArray) := ⟨_, rfl⟩
  have HY := M.hidd hy
  have BO : Hid (∀ o, Below w.heap.size w (w.alloc o)) := fun o => (Below.refl _ _).alloc (Nat.le_refl _) _
  clear h1 h2 o1 o2 hm hw ht hr hy
  go_enter Tryz.func4, Tryz.ntmps4
  go_wp2_with fail
  refine (szDelta_any _ a0 b0 len0 cap0 m0 d0 ss0 fs0 1048576 (HS.out.below (BO.out _)) (HF.out.below (BO.out _)) O1.out O2.out (by omega) (by omega)).mono ?_
  rintro e w1 ⟨v, rfl, hv1, hv2, hb⟩
  have HV2 := M.hidd hv2
  have B1 := M.hidd hb
  have B1w := M.hidd (M.boxed_below hb)
  have x0 : w1.cell? ⟨w.heap.size, 0, none⟩ = some (.slice a0 len0 cap0) := M.boxed hb 0 _ rfl
  have x1 : w1.cell? ⟨w.heap.size, 1, none⟩ = some (.slice b0 m0 d0) := M.boxed hb 1 _ rfl
  clear hv2 hb
  by_cases hneg : v < 0
  · go_wp2
    go_ret
    exact ⟨rfl, B1w.out⟩
  obtain ⟨hl1, hl2, -, -⟩ := HV2.out (by omega)
  clear HV2
  go_wp2_with fail
  refine (toDelta_any w1 a0 b0 len0 cap0 m0 d0 ss0 fs0 (HS.out.below B1w.out) (HF.out.below B1w.out) (by omega) (by omega)).mono ?_
  rintro e w2 ⟨p1, p2, rfl, hs2, hf2, -, -, -, -, hb⟩
  have S2 := M.hidd hs2
  have F2 := M.hidd hf2
  have B2 := M.hidd (M.sd B1.out hb)
  clear hs2 hf2 hb x0 x1 B1 B1w
  go_wp2_with fail
  refine (sDeltaB_any w2 _ _ len0 len0 m0 m0 ss0 fs0 S2.out F2.out O1.out O2.out r HR.out).mono ?_
  rintro e w3 ⟨rfl, hb⟩
  rw [← HY.out]
  have B3 := M.hidd (M.sd B2.out hb)
  have B3w := M.hidd (M.boxed_below B3.out)
  have x0 : w3.cell? ⟨w.heap.size, 0, none⟩ = some (.slice a0 len0 cap0) := M.boxed B3.out 0 _ rfl
  have x1 : w3.cell? ⟨w.heap.size, 1, none⟩ = some (.slice b0 m0 d0) := M.boxed B3.out 1 _ rfl
  clear hb S2 F2 B2
  go_wp2_with fail
  refine (toDelta_any w3 a0 b0 len0 cap0 m0 d0 ss0 fs0 (HS.out.below B3w.out) (HF.out.below B3w.out) (by omega) (by omega)).mono ?_
  rintro e w4 ⟨q1, q2, rfl, hs4, hf4, -, -, -, -, hb⟩
  have BA : Below w4.heap.size w4 (w4.alloc (.cells #[.slice (some ⟨q1, 0, none⟩) len0 len0, .slice (some ⟨q2, 0, none⟩) m0 m0] 29)) := (Below.refl _ _).alloc (Nat.le_refl _) _
  have S4 := M.hidd (hs4.below BA)
  have F4 := M.hidd (hf4.below BA)
  have B4 := M.hidd (M.sd (M.sd B3.out hb) BA)
  have B4w := M.hidd (M.boxed_below B4.out)
  clear hs4 hf4 hb x0 x1 B3 B3w BA
  go_wp2_with fail
  refine (iDeltaB_any _ _ _ len0 len0 m0 m0 ss0 fs0 S4.out F4.out O1.out O2.out (M.ml_below HM.out.1 B4w.out) (HM.out.2.1.below B4w.out) (HM.out.2.2.below B4w.out) r HR.out).mono ?_
  rintro e w6 ⟨rfl, hb⟩
  rw [← HY.out]
  have S6 := M.hidd (S4.out.below hb)
  have F6 := M.hidd (F4.out.below hb)
  have B6 := M.hidd (M.sd B4.out hb)
  have B6w := M.hidd (M.boxed_below B6.out)
  have x0 : w6.cell? ⟨w.heap.size, 0, none⟩ = some (.slice a0 len0 cap0) := M.boxed B6.out 0 _ rfl
  have x1 : w6.cell? ⟨w.heap.size, 1, none⟩ = some (.slice b0 m0 d0) := M.boxed B6.out 1 _ rfl
  have y0 : w6.cell? ⟨w4.heap.size, 0, none⟩ = some (.slice (some ⟨q1, 0, none⟩) len0 len0) := M.boxed hb 0 _ rfl
  have y1 : w6.cell? ⟨w4.heap.size, 1, none⟩ = some (.slice (some ⟨q2, 0, none⟩) m0 m0) := M.boxed hb 1 _ rfl
  have hlt4 : w4.heap.size < w6.heap.size := by have := hb.size; simp at this; omega
  clear hb S4 F4 B4 B4w
  have dd : (y.toList != y.toList) = false := by simp
  have dd' : (y.toList == y.toList) = true := by simp
  have B6d : Hid (Below w.heap.size w w6.drew) := M.sd B6w.out (Below.refl _ _).drew
  have CT : Hid (Calls Tryz.prog 8 #[.agg #[.slice a0 len0 cap0, .slice b0 m0 d0]] w6.drew fun e w' => ∃ r1 r2 : Nat, e = .returned (.agg #[.slice (some ⟨r1, 0, none⟩) len0 len0, .slice (some ⟨r2, 0, none⟩) m0 m0]) ∧ M.Strs w' (some ⟨r1, 0, none⟩) len0 len0 ss0 ∧ M.Files w' (some ⟨r2, 0, none⟩) m0 m0 fs0 ∧ Below w6.drew.heap.size w6.drew w') :=
    (toDelta_any w6.drew a0 b0 len0 cap0 m0 d0 ss0 fs0 (HS.out.below B6d.out) (HF.out.below B6d.out) (by omega) (by omega)).mono (by rintro e w' ⟨r1, r2, rfl, hs, hf, -, -, -, -, hb⟩; exact ⟨r1, r2, rfl, hs, hf, hb⟩)
  go_wp2_with fail
  go_region_with (first | (go_at_call 8; refine CT.out.mono ?_; rintro e w8 ⟨r1, r2, rfl, hs8, hf8, hb8⟩; have S8 := M.hidd hs8; have F8 := M.hidd hf8; have B8 := M.hidd hb8; have z0 : w8.cell? ⟨w4.heap.size, 0, none⟩ = some (.slice (some ⟨q1, 0, none⟩) len0 len0) := (hb8.cell (p := ⟨w4.heap.size, 0, none⟩) hlt4).trans y0; have z1 : w8.cell? ⟨w4.heap.size, 1, none⟩ = some (.slice (some ⟨q2, 0, none⟩) m0 m0) := (hb8.cell (p := ⟨w4.heap.size, 1, none⟩) hlt4).trans y1; clear hs8 hf8 hb8) | (go_at_call 10; refine (eqDelta_same w8 _ _ _ _ len0 len0 m0 m0 len0 len0 m0 m0 ss0 fs0 (S6.out.below (M.sd (Below.refl _ _).drew B8.out)) (F6.out.below (M.sd (Below.refl _ _).drew B8.out)) S8.out F8.out).mono ?_; rintro e w9 ⟨rfl, hb9⟩))
  all_goals
    go_wp2
    go_ret
    exact ⟨rfl, M.sd (M.sd B6d.out B8.out) hb9⟩
end Go.Proofs.YtgceclfkonnlpaaGreatDoor
