/-
  What TreeDrop of the specification does.
-/
import Derived.Test.YtbmbcfnlpbbapagDoorSDrop
import Derived.WalkKit
import Derived.WalkSpells
import Derived.WalkLawsBesides
namespace Go.Proofs.YtbmbcfnlpbbapagDoor
open Go.RowKit

set_option maxRecDepth 100000 in
set_option maxHeartbeats 3200000 in
theorem sDrop_any (w : World) (b off len cap : Nat) (fs : List M.FileD) (p : ByteArray) (h : M.Files w (some ⟨b, off, none⟩) len cap fs) (hok : ∀ f ∈ fs, M.fok f) (hp : p.size ≤ 9223372036854775807) :
    Calls Tryd.prog 17 #[.slice (some ⟨b, off, none⟩) len cap, .string p] w fun e w' => ∃ v gs, e = .returned v ∧ M.Own w' w.heap.size 31 v gs ∧ M.DropR fs p gs ∧ Below w.heap.size w w' := by
  obtain ⟨i0, hi, hz0, hz1, hz2⟩ := info_parts Tryd.infoF
  have hlm : len ≤ 9223372036854775807 := by obtain ⟨_, h1, h2, _⟩ := h; unfold maxLen at h2; omega
  have HFL : Hid (len = fs.length) := h.1
  have HF : Hid (M.Files w (some ⟨b, off, none⟩) len cap fs) := h
  have HOK : Hid (∀ f ∈ fs, M.fok f) := hok
  have HAT : Hid (M.FilesAt w b off fs) := by
    by_cases h0 : 0 < len
    · obtain ⟨b', off', e, hat⟩ := h.2.2.2 h0
      cases e; exact hat
    · intro i hi
      have := h.1; omega
  clear h hok
  have HW : Hid (Below w.heap.size w (w.alloc (.cells #[] 31))) := (Below.refl _ _).alloc (Nat.le_refl _) _
  have HO0 : Hid (M.Own (w.alloc (.cells #[] 31)) w.heap.size 31 (.slice (some ⟨w.heap.size, 0, none⟩) 0 0) []) := ⟨rfl, .inr ⟨_, 0, #[], rfl, Nat.le_refl _, heap_alloc_new _ _, Nat.le_refl _, by decide, rfl, rfl⟩⟩
  by_cases hbig : 400 < len ∨ 20000 < p.size
  · have HZ : Hid (M.DropR fs p []) := ⟨fun _ => rfl, fun hn => absurd (by rw [← HFL.out]; exact hbig) hn⟩
    by_cases hb1 : 400 < len
    · have d1 : decide (400 < (len : Int)) = true := decide_eq_true (by omega)
      clear hbig
      go_enter Tryd.func17, Tryd.ntmps17
      go_wp2
      go_ret
      exact ⟨_, [], rfl, HO0.out, HZ.out, HW.out⟩
    · have d1 : decide (400 < (len : Int)) = false := decide_eq_false (by omega)
      have d2 : decide (20000 < (p.size : Int)) = true := decide_eq_true (by omega)
      clear hbig
      go_enter Tryd.func17, Tryd.ntmps17
      go_wp2
      go_ret
      exact ⟨_, [], rfl, HO0.out, HZ.out, HW.out⟩
  have d1 : decide (400 < (len : Int)) = false := decide_eq_false (by omega)
  have d2 : decide (20000 < (p.size : Int)) = false := decide_eq_false (by omega)
  have HNB : Hid (¬ (400 < fs.length ∨ 20000 < p.size)) := by rw [← HFL.out]; exact hbig
  go_enter Tryd.func17, Tryd.ntmps17
  go_wp2_with fail
  refine (sTree_any _ (some ⟨b, off, none⟩) len cap fs (HF.out.below HW.out) HOK.out).mono ?_
  rintro e w1 ⟨v, rfl, hv, hb⟩
  have HV : Hid (v = true ↔ M.TreeR fs) := hv
  have B1 : Hid (Below w.heap.size w w1) := HW.out.trans (hb.mono HW.out.size)
  have hg1 : (w.alloc (.cells #[] 31)).grownBy w1 none := ⟨hb.os, hb.tape, hb.output, hb.size, fun k hk _ => hb.block k hk⟩
  have HO1 : Hid (M.Own w1 w.heap.size 31 (.slice (some ⟨w.heap.size, 0, none⟩) 0 0) []) := World.ownsRow.kept HO0.out hg1 (by simp [Value.ownBlock])
  clear hv hb hg1 HO0 HW
  cases v
  · have HN : Hid (¬ M.TreeR fs) := fun h => by have := HV.out.2 h; cases this
    go_wp2_with fail
    refine (sCopy_any w1 b off len cap fs (HF.out.below B1.out) (by omega)).mono ?_
    rintro e w2 ⟨v, rfl, hown, hb⟩
    have HFIN : Hid (M.Own w2 w.heap.size 31 v fs ∧ M.DropR fs p fs ∧ Below w.heap.size w w2) :=
      ⟨hown.base B1.out.size, ⟨fun h => absurd h HNB.out, fun _ => ⟨fun _ => rfl, fun h => absurd h HN.out⟩⟩, B1.out.trans (hb.mono B1.out.size)⟩
    clear hown hb
    go_wp2
    go_ret
    exact ⟨_, fs, rfl, HFIN.out⟩
  have HT : Hid (M.TreeR fs) := HV.out.1 rfl
  clear HV
  go_wp2_with fail
  refine (sPlace_any w1 (some ⟨b, off, none⟩) len cap fs p (HF.out.below B1.out)).mono ?_
  rintro e w2 ⟨k0, v, rfl, hpl, hth, hb⟩
  have HPL : Hid (M.Place fs p k0) := hpl
  have HTH : Hid (v = true ↔ M.There fs p k0) := hth
  have B2 : Hid (Below w.heap.size w w2) := B1.out.trans (hb.mono B1.out.size)
  have hg2 : w1.grownBy w2 none := ⟨hb.os, hb.tape, hb.output, hb.size, fun k hk _ => hb.block k hk⟩
  have HO2 : Hid (M.Own w2 w.heap.size 31 (.slice (some ⟨w.heap.size, 0, none⟩) 0 0) []) := World.ownsRow.kept HO1.out hg2 (by simp [Value.ownBlock])
  clear hpl hth hb hg2 HO1 B1
  cases v
  · have HN : Hid (∀ k, ¬ M.There fs p k) := fun k hk => by
      obtain rfl := HPL.out.eq_of_there HT.out.rise hk
      have := HTH.out.2 hk
      cases this
    go_wp2_with fail
    refine (sCopy_any w2 b off len cap fs (HF.out.below B2.out) (by omega)).mono ?_
    rintro e w3 ⟨v, rfl, hown, hb⟩
    have HFIN : Hid (M.Own w3 w.heap.size 31 v fs ∧ M.DropR fs p fs ∧ Below w.heap.size w w3) :=
      ⟨hown.base B2.out.size, ⟨fun h => absurd h HNB.out, fun _ => ⟨fun h => absurd HT.out h, fun h => ⟨M.rising_of_tree h, fun f => ⟨fun hf => ⟨hf, M.none_below h HN.out f hf⟩, fun hf => hf.1⟩⟩⟩⟩, B2.out.trans (hb.mono B2.out.size)⟩
    clear hown hb
    go_wp2
    go_ret
    exact ⟨_, fs, rfl, HFIN.out⟩
  clear HPL HTH
  go_wp2
  go_loopw [5, 8] (fun v i wr => ∃ (k : Nat) (gs : List M.FileD), i = .int .i64 k ∧ k ≤ len ∧ gs.length ≤ k ∧ Hid (gs = (fs.take k).filter (fun f => !M.isBelow f.path p)) ∧ Hid (M.Own wr w.heap.size 31 v gs) ∧ Hid (Below w.heap.size w wr)) (fun _ i _ => len - (intOf i).toNat)
  case atStart => exact ⟨0, [], rfl, Nat.zero_le _, Nat.le_refl _, rfl, HO2, B2⟩
  case round =>
    obtain ⟨k, gs, rfl, hk, hgk, HGS, HOr, HBr⟩ := hrel
    by_cases hlt : k < len
    · have hfl := HFL.out
      obtain ⟨c0, c1, c2, c3, c4⟩ := (HAT.out.below HBr.out) k (by omega)
      have hfk := List.getElem?_eq_getElem (l := fs) (i := k) (by omega)
      generalize fs[k]'(by omega) = c at c0 c1 c2 c3 c4 hfk
      have HFK : Hid (fs[k]? = some c) := hfk
      have HBL : Hid (∀ W, Calls Tryd.prog 34 #[.string c.path, .string p] W fun e w' => e = .returned (.bool (M.isBelow c.path p)) ∧ W = w') := fun W => sBelow_any c.path p W hp
      clear hfk hfl
      cases hbw : M.isBelow c.path p
      · rw [hbw] at HBL
        have HG2 : Hid (gs ++ [c] = (fs.take (k + 1)).filter (fun f => !M.isBelow f.path p)) := by
          show _ = _
          rw [M.take_snoc_get HFK.out, List.filter_append, ← HGS.out]
          simp [hbw]
        clear hbw
        go_wp2_with fail
        refine (HBL.out _).mono ?_
        rintro e w3 ⟨rfl, rfl⟩
        go_wp2_with (at_builtin; refine wpList_append_own _ rfl (.tmp 48) (.tmp 53) 26 rfl w.heap.size 31 i0 (.agg #[.string ⟨#[]⟩, .bool false, .int .i64 0, .int .i64 0, .string ⟨#[]⟩]) 5 56 Tryd.underlying26 hi hz0 hz1 hz2 rfl (by decide) _ _ _ rfl (World.ownsRow.alloc HOr.out _) ⟨wr.heap.size, 0, none⟩ 1 1 (M.fcells c) rfl rfl (M.five_new _ _ _) ?c2 ?c3 ?c4 ?c5 ?_)
        case c2 => exact M.oneCellF c
        case c3 => unfold maxLen; omega
        case c4 => omega
        case c5 => have := HBr.out.size; simp; omega
        intro v' w4 hown' hgrow _
        have HO4 : Hid (M.Own w4 w.heap.size 31 v' (gs ++ [c])) := by
          show World.ownsRow _ _ _ _ _ _ _
          rw [← M.cellsF_snoc, List.length_append]; exact hown'
        have hgall : wr.grownBy w4 u5.ownBlock := ((World.grownBy_alloc wr _ none).but _).trans hgrow
        have HB4 : Hid (Below w.heap.size w w4) := HBr.out.grown hgall HBr.out.size (fun j hj => HOr.out.block j hj)
        clear hown' hgrow hgall HOr HBr c0 c1 c2 c3 c4
        go_wp2
        go_roundw
        case rel => exact ⟨k + 1, gs ++ [c], by go_num, by omega, by simp; omega, HG2, HO4, HB4⟩
        case measure => simp [intOf]; omega
      · rw [hbw] at HBL
        have HG2 : Hid (gs = (fs.take (k + 1)).filter (fun f => !M.isBelow f.path p)) := by
          show _ = _
          rw [M.take_snoc_get HFK.out, List.filter_append, ← HGS.out]
          simp [hbw]
        clear hbw
        go_wp2_with fail
        refine (HBL.out _).mono ?_
        rintro e w3 ⟨rfl, rfl⟩
        clear c0 c1 c2 c3 c4
        go_wp2
        go_roundw
        case rel => exact ⟨k + 1, gs, by go_num, by omega, by omega, HG2, HOr, HBr⟩
        case measure => simp [intOf]; omega
    · have HFIN : Hid (M.DropR fs p gs) := by
        have hfl := HFL.out
        have hgs := HGS.out
        rw [List.take_of_length_le (by omega)] at hgs
        refine ⟨fun h => absurd h HNB.out, fun _ => ⟨fun h => absurd HT.out h, fun h => ?_⟩⟩
        rw [hgs]
        refine ⟨M.rising_filter (M.rising_of_tree h) _, fun f => ?_⟩
        rw [List.mem_filter]
        simp
      go_wp2
      go_ret
      exact ⟨_, gs, rfl, HOr.out, HFIN.out, HBr.out⟩
end Go.Proofs.YtbmbcfnlpbbapagDoor
