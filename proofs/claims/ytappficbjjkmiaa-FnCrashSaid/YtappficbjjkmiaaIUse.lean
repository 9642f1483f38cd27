/-
  What useRight of the program does, and l07Use of the specification.
-/
import Derived.Test.YtappficbjjkmiaaHasW
import Derived.Test.YtappficbjjkmiaaPart10
import Derived.Test.YtappficbjjkmiaaShelf
import Derived.Test.YtappficbjjkmiaaWide
import Derived.Deep.RegionWith
import Derived.Deep.QuietTactic
namespace Go.Proofs.Ytappficbjjkmiaa
open Go.RowKit

/-- Numbers of so many tapes, no two alike. -/
def M.useP (n : Nat) (zs : List Int) : Prop := ∀ i z, zs[i]? = some z → (0 ≤ z ∧ z < (n : Int)) ∧ z ∉ zs.take i

set_option maxRecDepth 100000 in
set_option maxHeartbeats 1600000 in
theorem iUse_any (w : World) (a : Option Addr) (n c : Nat) (a1 : Option Addr) (m c1 : Nat) (zs : List Int) (hn : n ≤ 9223372036854775807) (h : M.NV w a1 m zs) (hm : m ≤ 1000000) (hc : m ≤ c1) :
    Calls Try.prog 48 #[.slice a n c, .slice a1 m c1] w fun e w' => ∃ v : Bool, e = .returned (.bool v) ∧ (v = true ↔ M.useP n zs) ∧ w = w' := by
  have HF := M.hl h
  have HN : Hid (m = zs.length) := h.1
  have CT : Hid (∀ W k, Calls Try.prog 65 #[.slice a n c, .int .i64 k] W fun e w' => e = .returned (.bool (decide (0 ≤ k ∧ k < (n : Int)))) ∧ W = w') := fun W k => iIsTape_any W a n c k hn
  clear h
  go_enter Try.func48, Try.ntmps48
  go_wp2
  go_loopw [9] (fun i wr => ∃ k : Nat, i = .int .i64 k ∧ k ≤ m ∧ Hid (∀ i z, i < k → zs[i]? = some z → (0 ≤ z ∧ z < (n : Int)) ∧ z ∉ zs.take i) ∧ w = wr) (fun i _ => m - (intOf i).toNat)
  case atStart => exact ⟨0, rfl, Nat.zero_le _, (fun i z hi => absurd hi (Nat.not_lt_zero _)), rfl⟩
  case round =>
    obtain ⟨k, rfl, hk, HG, rfl⟩ := hrel
    by_cases hlt : k < m
    case neg =>
      have HY : Hid (M.useP n zs) := fun i z hz => HG.out i z (by have := (List.getElem?_eq_some_iff.1 hz).1; have := HN.out; omega) hz
      go_wp2
      go_ret
      exact ⟨true, rfl, ⟨fun _ => HY.out, fun _ => rfl⟩, rfl⟩
    obtain ⟨b, off, rfl, hat⟩ := HF.out.2 (by omega)
    have hkm : k < zs.length := by have := HN.out; omega
    have c0 := hat k hkm
    have hfk := List.getElem?_eq_getElem hkm
    have hct := Try.slices_Contains_int b off k c1 zs (zs[k]'hkm) w (by omega) (by omega) (fun j hj => by rw [hat j hj, List.getD_eq_getElem?_getD, List.getElem?_eq_getElem hj]; rfl)
    generalize zs[k]'hkm = z at c0 hfk hct
    have HFK := M.hl hfk
    have HCT := M.hl hct
    have CI := M.hl (CT.out w z)
    clear hat hfk hct hkm
    by_cases hz : 0 ≤ z ∧ z < (n : Int)
    case neg =>
      have HX : Hid (¬ M.useP n zs) := fun hu => hz (hu k z HFK.out).1
      rw [decide_eq_false hz] at CI
      clear hz
      go_wp2_with fail
      refine CI.out.mono ?_
      rintro e w1 ⟨rfl, rfl⟩
      go_wp2
      go_ret
      exact ⟨false, rfl, ⟨fun h => (by cases h), fun h => absurd h HX.out⟩, rfl⟩
    rw [decide_eq_true hz] at CI
    have HZ := M.hl hz
    clear hz
    go_wp2_with fail
    refine CI.out.mono ?_
    rintro e w1 ⟨rfl, rfl⟩
    go_wp2_with fail
    refine HCT.out.mono ?_
    rintro e w2 ⟨rfl, rfl⟩
    cases hh : (zs.take k).contains z
    · have HG2 : Hid (∀ i z, i < k + 1 → zs[i]? = some z → (0 ≤ z ∧ z < (n : Int)) ∧ z ∉ zs.take i) := fun i x hi hx => by
        by_cases e : i = k
        · subst e
          rw [HFK.out] at hx
          obtain rfl := Option.some.inj hx
          exact ⟨HZ.out, fun hm => by rw [List.contains_iff_mem.2 hm] at hh; cases hh⟩
        · exact HG.out i x (by omega) hx
      clear hh c0
      go_wp2
      go_roundw
      case rel => exact ⟨k + 1, by go_num, by omega, HG2, by first | trivial | rfl⟩
      case measure => simp [intOf]; omega
    · have HX : Hid (¬ M.useP n zs) := fun hu => (hu k z HFK.out).2 (List.contains_iff_mem.1 hh)
      clear hh
      go_wp2
      go_ret
      exact ⟨false, rfl, ⟨fun h => (by cases h), fun h => absurd h HX.out⟩, rfl⟩

set_option maxRecDepth 100000 in
set_option maxHeartbeats 3200000 in
theorem sUse_any (w : World) (a : Option Addr) (n c : Nat) (a1 : Option Addr) (m c1 : Nat) (zs : List Int) (h : M.NV w a1 m zs) (hm : m ≤ 1000000) (hc : m ≤ c1) :
    Calls Try.prog 52 #[.slice a n c, .slice a1 m c1] w fun e w' => ∃ v : Bool, e = .returned (.bool v) ∧ (v = true ↔ M.useP n zs) ∧ Below w.heap.size w w' := by
  have HF := M.hl h
  have HN : Hid (m = zs.length) := h.1
  clear h
  go_enter Try.func52, Try.ntmps52
  go_wp2
  go_loopw [5] (fun i wr => ∃ k : Nat, i = .int .i64 k ∧ k ≤ m ∧ Hid (∀ i z, i < k → zs[i]? = some z → (0 ≤ z ∧ z < (n : Int)) ∧ z ∉ zs.take i) ∧ Hid (Below w.heap.size w wr)) (fun i _ => m - (intOf i).toNat)
  case atStart => exact ⟨0, rfl, Nat.zero_le _, (fun i z hi => absurd hi (Nat.not_lt_zero _)), Below.refl _ _⟩
  case round =>
    obtain ⟨k, rfl, hk, HG, HBr⟩ := hrel
    by_cases hlt : k < m
    case neg =>
      have HY : Hid (M.useP n zs) := fun i z hz => HG.out i z (by have := (List.getElem?_eq_some_iff.1 hz).1; have := HN.out; omega) hz
      go_wp2
      go_ret
      exact ⟨true, rfl, ⟨fun _ => HY.out, fun _ => rfl⟩, HBr.out⟩
    have hfr := HF.out
    obtain ⟨b, off, rfl, hat⟩ := hfr.2 (by omega)
    have hkm : k < zs.length := by have := HN.out; omega
    have hblk : b < w.heap.size := World.block_lt_of_cell? w _ (hat k hkm)
    have hnv : ∀ W, Below wr.heap.size wr W → M.NV W (some ⟨b, off, none⟩) k (zs.take k) := fun W hW => ⟨by rw [List.length_take]; omega, fun _ => ⟨b, off, rfl, fun i hi => by
      rw [List.length_take] at hi
      rw [List.getElem_take]
      exact (World.cell?_of_block (a := ⟨b, off + i, none⟩) ((hW.block b (Nat.lt_of_lt_of_le hblk HBr.out.size)).trans (HBr.out.block b hblk))).trans (hat i (by omega))⟩⟩
    have c0 : wr.cell? ⟨b, off + k, none⟩ = some (.int .i64 (zs[k]'hkm)) := (World.cell?_of_block (a := ⟨b, off + k, none⟩) (HBr.out.block b hblk)).trans (hat k hkm)
    have hfk := List.getElem?_eq_getElem hkm
    generalize zs[k]'hkm = z at c0 hfk
    have HFK := M.hl hfk
    have CH : Hid (∀ W, Below wr.heap.size wr W → Calls Try.prog 77 #[.slice (some ⟨b, off, none⟩) k c1, .int .i64 z] W fun e w' => e = .returned (.bool (M.has (zs.take k) z)) ∧ Below W.heap.size W w') := fun W hW => (sHas_nv W _ k c1 (zs.take k) z (hnv W hW) (by omega)).mono (by rintro e w' ⟨rfl, rfl⟩; exact ⟨rfl, Below.refl _ _⟩)
    have hin : (k : Int) < (m : Int) := by omega
    have hkc : k ≤ c1 := by omega
    have q0 := M.Wd.cell c0
    clear hfr hat hblk hnv hfk hkm c0
    by_cases hz0 : z < 0
    · have HX : Hid (¬ M.useP n zs) := fun hu => by have := (hu k z HFK.out).1; omega
      have d0 : decide (z < 0) = true := decide_eq_true hz0
      clear hz0
      go_wp2_with fail
      refine M.wp_region_wd (by kernel_rfl) (by kernel_rfl) (fun _ => ?_)
      repeat (first | go_big_quiet_skip | (go_big_quiet_want; go_big_quiet_op; first | go_big_quiet_on | (apply Exists.intro; refine ⟨fun x => ?_, ?_⟩; exact M.Wd.call x (CH.out x.val x.bel); go_big_quiet_on)))
      refine wpQuiet_nil ?_
      intro w9 hw'
      have B9 : Hid (Below w.heap.size w w9) := by obtain ⟨x, rfl⟩ := hw'; exact HBr.out.trans (x.bel.mono HBr.out.size)
      clear hw' q0
      go_wp2
      go_ret
      exact ⟨false, rfl, ⟨fun h => (by cases h), fun h => absurd h HX.out⟩, B9.out⟩
    have d0 : decide (z < 0) = false := decide_eq_false hz0
    by_cases hz1 : (n : Int) ≤ z
    · have HX : Hid (¬ M.useP n zs) := fun hu => by have := (hu k z HFK.out).1; omega
      have d2 : decide ((n : Int) ≤ z) = true := decide_eq_true hz1
      clear hz0 hz1
      go_wp2_with fail
      refine M.wp_region_wd (by kernel_rfl) (by kernel_rfl) (fun _ => ?_)
      repeat (first | go_big_quiet_skip | (go_big_quiet_want; go_big_quiet_op; first | go_big_quiet_on | (apply Exists.intro; refine ⟨fun x => ?_, ?_⟩; exact M.Wd.call x (CH.out x.val x.bel); go_big_quiet_on)))
      refine wpQuiet_nil ?_
      intro w9 hw'
      have B9 : Hid (Below w.heap.size w w9) := by obtain ⟨x, rfl⟩ := hw'; exact HBr.out.trans (x.bel.mono HBr.out.size)
      clear hw' q0
      go_wp2
      go_ret
      exact ⟨false, rfl, ⟨fun h => (by cases h), fun h => absurd h HX.out⟩, B9.out⟩
    have d2 : decide ((n : Int) ≤ z) = false := decide_eq_false hz1
    have HZ : Hid (0 ≤ z ∧ z < (n : Int)) := ⟨by omega, by omega⟩
    clear hz0 hz1
    cases hh : M.has (zs.take k) z
    · rw [hh] at CH
      have HG2 : Hid (∀ i z, i < k + 1 → zs[i]? = some z → (0 ≤ z ∧ z < (n : Int)) ∧ z ∉ zs.take i) := fun i x hi hx => by
        by_cases e : i = k
        · subst e
          rw [HFK.out] at hx
          obtain rfl := Option.some.inj hx
          exact ⟨HZ.out, fun hm => by unfold M.has at hh; rw [decide_eq_true hm] at hh; cases hh⟩
        · exact HG.out i x (by omega) hx
      clear hh
      go_wp2_with fail
      refine M.wp_region_wd (by kernel_rfl) (by kernel_rfl) (fun _ => ?_)
      repeat (first | go_big_quiet_skip | (go_big_quiet_want; go_big_quiet_op; first | go_big_quiet_on | (apply Exists.intro; refine ⟨fun x => ?_, ?_⟩; exact M.Wd.call x (CH.out x.val x.bel); go_big_quiet_on)))
      refine wpQuiet_nil ?_
      intro w9 hw'
      have B9 : Hid (Below w.heap.size w w9) := by obtain ⟨x, rfl⟩ := hw'; exact HBr.out.trans (x.bel.mono HBr.out.size)
      clear hw' q0 hin
      go_wp2
      go_roundw
      case rel => exact ⟨k + 1, by go_num, by omega, HG2, B9⟩
      case measure => simp [intOf]; omega
    · rw [hh] at CH
      have HX : Hid (¬ M.useP n zs) := fun hu => (hu k z HFK.out).2 (of_decide_eq_true hh)
      clear hh
      go_wp2_with fail
      refine M.wp_region_wd (by kernel_rfl) (by kernel_rfl) (fun _ => ?_)
      repeat (first | go_big_quiet_skip | (go_big_quiet_want; go_big_quiet_op; first | go_big_quiet_on | (apply Exists.intro; refine ⟨fun x => ?_, ?_⟩; exact M.Wd.call x (CH.out x.val x.bel); go_big_quiet_on)))
      refine wpQuiet_nil ?_
      intro w9 hw'
      have B9 : Hid (Below w.heap.size w w9) := by obtain ⟨x, rfl⟩ := hw'; exact HBr.out.trans (x.bel.mono HBr.out.size)
      clear hw' q0
      go_wp2
      go_ret
      exact ⟨false, rfl, ⟨fun h => (by cases h), fun h => absurd h HX.out⟩, B9.out⟩
end Go.Proofs.Ytappficbjjkmiaa
