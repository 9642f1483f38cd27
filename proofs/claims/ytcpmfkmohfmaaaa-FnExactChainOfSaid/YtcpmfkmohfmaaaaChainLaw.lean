/-
  ChainOf of the program answers as that of the specification, at every slice of marks and every Id; its answer owns its memory.
-/
import Derived.Test.YtcpmfkmohfmaaaaNumSW
import Derived.Test.YtcpmfkmohfmaaaaIChain
import Derived.Test.YtcpmfkmohfmaaaaSChain
namespace Go.Proofs.Ytcpmfkmohfmaaaa
open Go.RowKit

theorem M.chain_len (ms : List M.MkD) (id : Int) : (M.chain ms id).length ≤ 61 := by
  unfold M.chain
  rw [List.length_reverse]
  exact M.up_le 61 id

set_option maxRecDepth 100000 in
set_option maxHeartbeats 1600000 in
theorem fnExactChainOf_walk (a0 : Option Addr) (len0 cap0 : Nat) (ms0 : List M.MkD) (a1 : Int) (w : World) (h : M.Mks w a0 len0 cap0 ms0) (_ : ∀ m ∈ ms0, M.mok m) (_ : -9223372036854775808 ≤ a1) (_ : a1 ≤ 9223372036854775807) :
    Calls Try.prog 6 #[.slice a0 len0 cap0, .int .i64 a1] w fun e w' => e = .returned (.bool true) ∧ Below w.heap.size w w' := by
  have HM := M.hidm h
  clear h
  go_enter Try.func6, Try.ntmps6
  go_wp2_with fail
  refine (szMarkS_any w a0 len0 cap0 ms0 HM.out).mono ?_
  rintro e w' ⟨v, rfl, hv, hv2, rfl⟩
  by_cases hneg : v < 0
  · go_wp2
    go_ret
    exact ⟨rfl, Below.refl _ _⟩
  have hl := hv (by omega)
  clear hv
  go_wp2_with fail
  refine (toMarkS_any w a0 len0 cap0 ms0 HM.out hl).mono ?_
  rintro e w1 ⟨b1, rfl, hm1, -, -, hb1⟩
  have M1 := M.hidm hm1
  have B1 := M.hidm hb1
  clear hm1 hb1
  go_wp2_with fail
  refine (sChainOf_any w1 _ len0 len0 ms0 a1 M1.out).mono ?_
  rintro e w2 ⟨vs, zs, rfl, hos, hzs, hb⟩
  have HZ := M.hidm hzs
  have S2 := M.hidm hos
  have B2 := M.hidm (M.sm B1.out hb)
  have hzl : zs.length ≤ 61 := by
    rcases hzs with ⟨-, rfl⟩ | ⟨-, rfl⟩
    · exact M.chain_len _ _
    · simp
  clear hzs hos hb
  go_wp2_with fail
  refine (toMarkS_any w2 a0 len0 cap0 ms0 (HM.out.below B2.out) hl).mono ?_
  rintro e w3 ⟨b3, rfl, hm3, hr3, hb23, hb3⟩
  have M3 := M.hidm hm3
  have R3 := M.hidm hr3
  have S3 := M.hidm (S2.out.below hb3)
  have B3 := M.hidm (M.sm B2.out hb3)
  have hlt3 : b3 < w3.heap.size := hr3.lt
  have SB : Hid (∀ j, vs.ownBlock = some j → j < b3) := fun j hj => by have := (World.ownsRow.lt S2.out j hj).2; omega
  clear hm3 hb3 hr3
  go_wp2_with fail
  refine (iChainOf_any w3 _ len0 len0 ms0 a1 M3.out).mono ?_
  rintro e w4 ⟨vg, zs', rfl, hog, hzs', hb⟩
  obtain rfl : zs = zs' := by
    rcases HZ.out with ⟨h1, rfl⟩ | ⟨h1, rfl⟩ <;> rcases hzs' with ⟨h2, rfl⟩ | ⟨h2, rfl⟩
    · rfl
    · exact absurd h1 h2
    · exact absurd h2 h1
    · rfl
  have G4 := M.hidm hog
  have S4 := M.hidm (S3.out.below hb)
  have M4 := M.hidm (M3.out.below hb)
  have R4 : Hid (M.Row w4 b3 31 (len0 * 3)) := R3.out.of_block (hb.block b3 hlt3)
  have B4 := M.hidm (M.sm B3.out hb)
  have GB : Hid (∀ j, vg.ownBlock = some j → b3 < j) := fun j hj => by have := (World.ownsRow.lt hog j hj).1; omega
  clear hog hzs' hb S3 M3 R3
  go_wp2_with fail
  refine (eqInt64S_same w4 _ _ vg vs zs G4.out S4.out (by omega)).mono ?_
  rintro e w5 ⟨rfl, hb⟩
  have G5 := M.hidm (G4.out.below hb)
  have S5 := M.hidm (S4.out.below hb)
  have M5 := M.hidm (M4.out.below hb)
  have R5 : Hid (M.Row w5 b3 31 (len0 * 3)) := R4.out.of_block (hb.block b3 R4.out.lt)
  have B5 := M.hidm (M.sm B4.out hb)
  clear hb G4 S4 M4 R4
  go_wp2_with fail
  refine (toMarkS_any w5 a0 len0 cap0 ms0 (HM.out.below B5.out) hl).mono ?_
  rintro e w6 ⟨b6, rfl, hm6, -, -, hb6⟩
  have M6 := M.hidm hm6
  have M6' := M.hidm (M5.out.below hb6)
  have G6 := M.hidm (G5.out.below hb6)
  have S6 := M.hidm (S5.out.below hb6)
  have R6 : Hid (M.Row w6 b3 31 (len0 * 3)) := R5.out.of_block (hb6.block b3 R5.out.lt)
  have B6 := M.hidm (M.sm B5.out hb6)
  clear hm6 hb6 G5 S5 M5 R5
  go_wp2_with fail
  refine (eqMarkS_same w6 _ _ len0 len0 len0 len0 ms0 M6'.out M6.out).mono ?_
  rintro e w7 ⟨rfl, hb⟩
  have G7 := M.hidm (G6.out.below hb)
  have S7 := M.hidm (S6.out.below hb)
  have R7 : Hid (M.Row w7 b3 31 (len0 * 3)) := R6.out.of_block (hb.block b3 R6.out.lt)
  have B7 := M.hidm (M.sm B6.out hb)
  clear hb G6 S6 R6 M6 M6'
  go_wp2_with fail
  refine (markMarkS_any w7 b3 len0 R7.out hl).mono ?_
  rintro e w8 ⟨u, rfl, hu, hg⟩
  have G8 := M.hidm (G7.out.grown hg (fun j hj e => by have := GB.out j hj; have := Option.some.inj e; omega))
  have S8 := M.hidm (S7.out.grown hg (fun j hj e => by have := SB.out j hj; have := Option.some.inj e; omega))
  have B8 : Hid (Below w.heap.size w w8) := B7.out.grown hg B7.out.size (fun j hj => by cases hj; have := B2.out.size; omega)
  have du : decide (u < 0) = false := decide_eq_false (by omega)
  clear hg G7 S7 R7 hu
  go_wp2_with fail
  refine (eqInt64S_same w8 _ _ vg vs zs G8.out S8.out (by omega)).mono ?_
  rintro e w9 ⟨rfl, hb⟩
  have G9 := M.hidm (G8.out.below hb)
  have S9 := M.hidm (S8.out.below hb)
  have B9 := M.hidm (M.sm B8.out hb)
  clear hb G8 S8 du
  go_wp2_with fail
  refine (markInt64S_own w9 _ vg zs G9.out (by omega)).mono ?_
  rintro e w10 ⟨rfl, hg10, hg⟩
  have G10 := M.hidm hg10
  have S10 := M.hidm (S9.out.grown hg (fun j hj e => by have := SB.out j hj; have := GB.out j e.symm; omega))
  have B10 : Hid (Below w.heap.size w w10) := B9.out.grown hg B9.out.size (fun j hj => by have := GB.out j hj; have := B2.out.size; omega)
  clear hg10 hg G9 S9
  obtain ⟨n, hn⟩ : ∃ n, n = zs.length := ⟨_, rfl⟩
  rw [← hn] at G10
  rw [← hn]
  go_wp2_with fail
  refine (heldInt64S_own w10 _ vg n G10.out (by omega)).mono ?_
  rintro e w' ⟨rfl, rfl⟩
  have dn : decide ((n : Int) + 1 < 0) = false := decide_eq_false (by omega)
  have dq : (((n : Int) + 1) != ((n : Int) + 1)) = false := by simp
  go_wp2_with fail
  refine (toMarkS_any w10 a0 len0 cap0 ms0 (HM.out.below B10.out) hl).mono ?_
  rintro e w11 ⟨b11, rfl, hm11, -, -, hb11⟩
  have M11 := M.hidm hm11
  have G11 := M.hidm (G10.out.below hb11)
  have S11 := M.hidm (S10.out.below hb11)
  have B11 := M.hidm (M.sm B10.out hb11)
  clear hm11 hb11 G10 S10
  go_wp2_with fail
  refine (iChainOf_any w11 _ len0 len0 ms0 a1 M11.out).mono ?_
  rintro e w12 ⟨vh, zs', rfl, hog, hzs', hb⟩
  obtain rfl : zs = zs' := by
    rcases HZ.out with ⟨h1, rfl⟩ | ⟨h1, rfl⟩ <;> rcases hzs' with ⟨h2, rfl⟩ | ⟨h2, rfl⟩
    · rfl
    · exact absurd h1 h2
    · exact absurd h2 h1
    · rfl
  have H12 := M.hidm hog
  have G12 := M.hidm (G11.out.below hb)
  have S12 := M.hidm (S11.out.below hb)
  have B12 := M.hidm (M.sm B11.out hb)
  clear hog hzs' hb G11 S11 M11
  go_wp2_with fail
  refine (eqInt64S_same w12 _ _ vh vs zs H12.out S12.out (by omega)).mono ?_
  rintro e w13 ⟨rfl, hb⟩
  have G13 := M.hidm (G12.out.below hb)
  have B13 := M.hidm (M.sm B12.out hb)
  clear hb G12 S12 H12
  go_wp2_with fail
  refine (heldInt64S_own w13 _ vg n G13.out (by omega)).mono ?_
  rintro e w' ⟨rfl, rfl⟩
  go_wp2
  go_ret
  exact ⟨rfl, B13.out⟩
end Go.Proofs.Ytcpmfkmohfmaaaa
