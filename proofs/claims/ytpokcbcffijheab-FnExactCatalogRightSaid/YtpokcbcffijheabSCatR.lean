/-
  What CatalogRight of the specification does.
-/
import Derived.Test.YtpokcbcffijheabCatMath
import Derived.Test.YtpokcbcffijheabSDumpR
import Derived.Test.YtpokcbcffijheabSMarksR
import Derived.Test.YtpokcbcffijheabStepCallE
import Derived.Test.YtpokcbcffijheabWide
import Derived.Deep.RegionWith
import Derived.Deep.QuietTactic
import Derived.BigRegion
namespace Go.Proofs.Ytpokcbcffijheab
open Go.RowKit

theorem M.marksRB {w : World} {a : Option Addr} {n c : Nat} {ms : List M.MkD} (h : M.Mks w a n c ms) : Calls Try.prog 25 #[.slice a n c] w fun e w' => ∃ v, e = .returned v ∧ ∃ u : Bool, v = .bool u ∧ (u = true ↔ M.MarksR ms) ∧ Below w.heap.size w w' :=
  (sMarksR_any w a n c ms h).mono (by rintro e w' ⟨v, rfl, hv, hb⟩; exact ⟨_, rfl, v, rfl, hv, hb⟩)

set_option maxRecDepth 100000 in
set_option maxHeartbeats 16000000 in
theorem sCatR_any (w : World) (a : Option Addr) (n c : Nat) (ds : List M.DumpD) (h : M.Dps w a n c ds) (hok : ∀ d ∈ ds, d.host.size ≤ maxLen) :
    Calls Try.prog 8 #[.slice a n c] w fun e w' => ∃ v : Bool, e = .returned (.bool v) ∧ (v = true ↔ M.catP ds) ∧ Below w.heap.size w w' := by
  have hlm : n ≤ 9223372036854775807 := h.max
  have HF := M.hl h
  have HN : Hid (n = ds.length) := h.1
  have HOK := M.hl hok
  have HCI := M.hl (M.catP_iff ds)
  obtain ⟨C, hC⟩ : ∃ C : Prop, C = M.catP ds := ⟨_, rfl⟩
  rw [← hC] at HCI ⊢
  clear h hok hC
  by_cases h40 : 40 < n
  · have d1 : decide (40 < (n : Int)) = true := decide_eq_true (by omega)
    have HX : Hid (¬ C) := by
      rw [HCI.out]
      intro hc
      have := hc.1
      have := HN.out
      omega
    go_enter Try.func8, Try.ntmps8
    go_wp2
    go_ret
    exact ⟨false, rfl, ⟨fun h => (by cases h), fun h => absurd h HX.out⟩, Below.refl _ _⟩
  have d1 : decide (40 < (n : Int)) = false := decide_eq_false (by omega)
  go_enter Try.func8, Try.ntmps8
  go_wp2
  go_loopw [3] (fun i wr => ∃ k : Nat, i = .int .i64 k ∧ k ≤ n ∧ Hid (∀ i d, i < k → ds[i]? = some d → M.catAt ds i d) ∧ Hid (Below w.heap.size w wr)) (fun i _ => n - (intOf i).toNat)
  case atStart => exact ⟨0, rfl, Nat.zero_le _, (fun i d hi => absurd hi (Nat.not_lt_zero _)), Below.refl _ _⟩
  case round =>
    obtain ⟨k, rfl, hk, HA, HBr⟩ := hrel
    by_cases hlt : k < n
    case neg =>
      have HX : Hid C := by
        show C
        rw [HCI.out]
        refine ⟨by have := HN.out; omega, fun i d hd => HA.out i d (by have := (List.getElem?_eq_some_iff.1 hd).1; have := HN.out; omega) hd⟩
      go_wp2
      go_ret
      exact ⟨true, rfl, ⟨fun _ => HX.out, fun _ => rfl⟩, HBr.out⟩
    obtain ⟨b, off, d, rfl, hfk, ⟨c0, c1, c2, c3, c4, c5, c6, c7⟩, pa, pn, pc, c8, hp⟩ := (HF.out.below HBr.out).at hlt
    have HFK := M.hl hfk
    have HP := M.hl hp
    have hkl : (k : Int) < (n : Int) := by omega
    have HBLK : Hid (b < wr.heap.size) := World.block_lt_of_cell? wr _ c0
    have K0 := M.hl c0
    have K1 := M.hl c1
    have K2 := M.hl c2
    have K3 := M.hl c3
    have K4 := M.hl c4
    have K5 := M.hl c5
    have K6 := M.hl c6
    have K7 := M.hl c7
    have K8 := M.hl c8
    have CR : Hid (∀ W, Below wr.heap.size wr W → Calls Try.prog 24 #[.agg #[.int .i64 d.id, .string d.host, .int .i64 d.run, .int .i64 d.lev, .int .i64 d.base, .int .i64 d.day, .int .i64 d.many, .int .i64 d.crc, .slice pa pn pc]] W fun e w' => e = .returned (.bool (M.dumpR d)) ∧ Below W.heap.size W w') := fun W hW => sDumpR_any W d.id d.host d.run d.lev d.base d.day d.many d.crc pa pn pc d.ps (HP.out.below hW) (HOK.out d (List.mem_of_getElem? HFK.out))
    have CM : Hid (∀ W, Below wr.heap.size wr W → Calls Try.prog 26 #[.slice (some ⟨b, off, none⟩) n c, .string d.host] W fun e w' => ∃ v, e = .returned v ∧ M.OwnK w' W.heap.size v (M.marksOf ds d.host) ∧ Below W.heap.size W w') := fun W hW => sMarks8_any W _ n c ds d.host ((HF.out.below HBr.out).below hW) (by omega)
    have HX0 : Hid (∀ k d, ds[k]? = some d → ¬ M.catAt ds k d → ¬ C) := by
      intro k d hd hn hc
      exact hn ((HCI.out.1 hc).2 k d hd)
    clear hfk hp
    cases hr : M.dumpR d
    · rw [hr] at CR
      have HX : Hid (¬ C) := HX0.out k d HFK.out (fun hc => by have := hc.1; rw [hr] at this; cases this)
      clear hr
      have q0 := M.Wd.cell c0; have q1 := M.Wd.cell c1; have q2 := M.Wd.cell c2; have q3 := M.Wd.cell c3; have q4 := M.Wd.cell c4; have q5 := M.Wd.cell c5; have q6 := M.Wd.cell c6; have q7 := M.Wd.cell c7; have q8 := M.Wd.cell c8
      go_wp2_with fail
      refine M.wp_region_wd (by kernel_rfl) (by kernel_rfl) (fun _ => ?_)
      repeat (first | go_big_quiet_skip | (go_big_quiet_want; go_big_quiet_op; first | go_big_quiet_on | (apply Exists.intro; refine ⟨fun x => ?_, ?_⟩; exact M.Wd.call x (CR.out x.val x.bel); go_big_quiet_on)))
      refine wpQuiet_nil ?_
      intro w5 hw'
      have B5 : Hid (Below w.heap.size w w5) := by obtain ⟨x, rfl⟩ := hw'; exact HBr.out.trans (x.bel.mono HBr.out.size)
      clear hw' q0 q1 q2 q3 q4 q5 q6 q7 q8
      go_wp2
      go_ret
      exact ⟨false, rfl, ⟨fun h => (by cases h), fun h => absurd h HX.out⟩, B5.out⟩
    rw [hr] at CR
    have HDR := M.hl hr
    clear hr
    have HNX : Hid (∀ (hid : ∀ j g, k = j + 1 → ds[j]? = some g → g.id < d.id), M.MarksR (M.marksOf ds d.host) → (∀ q g, q < k → ds[q]? = some g → g.host = d.host → g.run < d.run) → ∀ i x, i < k + 1 → ds[i]? = some x → M.catAt ds i x) := by
      intro hid hm hq i x hi hx
      by_cases e : i = k
      · subst e
        rw [HFK.out] at hx
        obtain rfl := Option.some.inj hx
        exact ⟨HDR.out, hid, hm, hq⟩
      · exact HA.out i x (by omega) hx
    by_cases h0 : 0 < k
    case neg =>
      have HID : Hid (∀ j g, k = j + 1 → ds[j]? = some g → g.id < d.id) := fun j g hj => by omega
      have d0 : decide (0 < k) = false := decide_eq_false h0
      go_wp2_with fail
      refine wp_region_any (by kernel_rfl) ?_
      change wpAny _ _ _ _ _ _ _ (World.drew _)
      refine M.takeD (i := 0) (v := .slice (some ⟨b, off, none⟩) n c) 14 rfl rfl (by kernel_rfl) (by kernel_rfl) (by kernel_rfl) (fun _ _ _ h => h) (.inl ⟨by kernel_rfl, fun w' => by go_simp⟩) ?_
      refine M.takeD (i := 1) (v := .int .i64 (k : Int)) 15 rfl rfl (by kernel_rfl) (by kernel_rfl) (by kernel_rfl) (fun _ _ _ h => h) (.inl ⟨by kernel_rfl, fun w' => by go_simp⟩) ?_
      refine M.takeD (i := 2) (v := .pointer (some ⟨b, off + k * 9, none⟩)) 16 rfl rfl (by kernel_rfl) (by kernel_rfl) (by kernel_rfl) (fun _ _ _ h => h) (.inl ⟨by kernel_rfl, fun w' => by go_simp⟩) ?_
      refine wpAny_ready (rs := [3]) (by kernel_rfl) (by simp) ?_
      refine AllReady.cons rfl (fun K hK => ?_) AllReady.nil
      go_simp
      refine hK _ _ ?_
      clear hK K
      refine wpAny_ready (rs := [4]) (by kernel_rfl) (by simp) ?_
      refine AllReady.cons rfl (fun K hK => ?_) AllReady.nil
      refine M.stepCallB 18 rfl rfl 24 (.tmp 17) 36 rfl (.agg #[.int .i64 d.id, .string d.host, .int .i64 d.run, .int .i64 d.lev, .int .i64 d.base, .int .i64 d.day, .int .i64 d.many, .int .i64 d.crc, .slice pa pn pc]) (by simp [Act.eval]) (.bool true) (CR.out _ (Below.refl _ _).drew) (by kernel_rfl) ?_
      intro w5 hb5
      have V5 := hb5.block b HBLK.out
      have A5 := M.hl (M.sl (show Below wr.heap.size wr wr.drew from (Below.refl _ _).drew) hb5)
      have B5 := M.hl (M.sl (show Below w.heap.size w wr.drew from HBr.out.drew) hb5)
      have c0 : w5.cell? ⟨b, off + k * 9, none⟩ = some (.int .i64 d.id) := (World.cell?_of_block (a := ⟨b, off + k * 9, none⟩) V5).trans K0.out
      have c1 : w5.cell? ⟨b, off + k * 9 + 1, none⟩ = some (.string d.host) := (World.cell?_of_block (a := ⟨b, off + k * 9 + 1, none⟩) V5).trans K1.out
      have c2 : w5.cell? ⟨b, off + k * 9 + 2, none⟩ = some (.int .i64 d.run) := (World.cell?_of_block (a := ⟨b, off + k * 9 + 2, none⟩) V5).trans K2.out
      have c3 : w5.cell? ⟨b, off + k * 9 + 3, none⟩ = some (.int .i64 d.lev) := (World.cell?_of_block (a := ⟨b, off + k * 9 + 3, none⟩) V5).trans K3.out
      have c4 : w5.cell? ⟨b, off + k * 9 + 4, none⟩ = some (.int .i64 d.base) := (World.cell?_of_block (a := ⟨b, off + k * 9 + 4, none⟩) V5).trans K4.out
      have c5 : w5.cell? ⟨b, off + k * 9 + 5, none⟩ = some (.int .i64 d.day) := (World.cell?_of_block (a := ⟨b, off + k * 9 + 5, none⟩) V5).trans K5.out
      have c6 : w5.cell? ⟨b, off + k * 9 + 6, none⟩ = some (.int .i64 d.many) := (World.cell?_of_block (a := ⟨b, off + k * 9 + 6, none⟩) V5).trans K6.out
      have c7 : w5.cell? ⟨b, off + k * 9 + 7, none⟩ = some (.int .i64 d.crc) := (World.cell?_of_block (a := ⟨b, off + k * 9 + 7, none⟩) V5).trans K7.out
      have c8 : w5.cell? ⟨b, off + k * 9 + 8, none⟩ = some (.slice pa pn pc) := (World.cell?_of_block (a := ⟨b, off + k * 9 + 8, none⟩) V5).trans K8.out
      clear V5 hb5
      try go_simp
      refine hK _ _ ?_
      clear hK K
      refine M.takeD (i := 5) (v := .bool false) 19 rfl rfl (by kernel_rfl) (by kernel_rfl) (by kernel_rfl) (fun _ _ _ h => h) (.inl ⟨by kernel_rfl, fun w' => by go_simp⟩) ?_
      refine M.takeD (i := 6) (v := .bool false) 20 rfl rfl (by kernel_rfl) (by kernel_rfl) (by kernel_rfl) (fun _ _ _ h => h) (.inl ⟨by kernel_rfl, fun w' => by go_simp⟩) ?_
      refine M.takeD (i := 7) (v := .int .i64 (k : Int)) 21 rfl rfl (by kernel_rfl) (by kernel_rfl) (by kernel_rfl) (fun _ _ _ h => h) (.inl ⟨by kernel_rfl, fun w' => by go_simp⟩) ?_
      refine M.takeD (i := 8) (v := .bool false) 22 rfl rfl (by kernel_rfl) (by kernel_rfl) (by kernel_rfl) (fun _ _ _ h => h) (.inl ⟨by kernel_rfl, fun w' => by go_simp⟩) ?_
      refine M.takeD (i := 9) (v := .bool false) 23 rfl rfl (by kernel_rfl) (by kernel_rfl) (by kernel_rfl) (fun _ _ _ h => h) (.inl ⟨by kernel_rfl, fun w' => by go_simp⟩) ?_
      refine M.takeD (i := 10) (v := undef) 24 rfl rfl (by kernel_rfl) (by kernel_rfl) (by kernel_rfl) (fun _ _ _ h => h) (.inr ⟨by kernel_rfl, rfl⟩) ?_
      refine M.takeD (i := 11) (v := undef) 25 rfl rfl (by kernel_rfl) (by kernel_rfl) (by kernel_rfl) (fun _ _ _ h => h) (.inr ⟨by kernel_rfl, rfl⟩) ?_
      refine M.takeD (i := 12) (v := undef) 26 rfl rfl (by kernel_rfl) (by kernel_rfl) (by kernel_rfl) (fun _ _ _ h => h) (.inr ⟨by kernel_rfl, rfl⟩) ?_
      refine M.takeD (i := 13) (v := undef) 27 rfl rfl (by kernel_rfl) (by kernel_rfl) (by kernel_rfl) (fun _ _ _ h => h) (.inr ⟨by kernel_rfl, rfl⟩) ?_
      refine M.takeD (i := 14) (v := undef) 28 rfl rfl (by kernel_rfl) (by kernel_rfl) (by kernel_rfl) (fun _ _ _ h => h) (.inr ⟨by kernel_rfl, rfl⟩) ?_
      refine M.takeD (i := 15) (v := undef) 29 rfl rfl (by kernel_rfl) (by kernel_rfl) (by kernel_rfl) (fun _ _ _ h => h) (.inr ⟨by kernel_rfl, rfl⟩) ?_
      refine M.takeD (i := 16) (v := undef) 30 rfl rfl (by kernel_rfl) (by kernel_rfl) (by kernel_rfl) (fun _ _ _ h => h) (.inr ⟨by kernel_rfl, rfl⟩) ?_
      refine M.takeD (i := 17) (v := undef) 31 rfl rfl (by kernel_rfl) (by kernel_rfl) (by kernel_rfl) (fun _ _ _ h => h) (.inr ⟨by kernel_rfl, rfl⟩) ?_
      refine M.takeD (i := 18) (v := undef) 32 rfl rfl (by kernel_rfl) (by kernel_rfl) (by kernel_rfl) (fun _ _ _ h => h) (.inr ⟨by kernel_rfl, rfl⟩) ?_
      refine M.takeD (i := 19) (v := undef) 33 rfl rfl (by kernel_rfl) (by kernel_rfl) (by kernel_rfl) (fun _ _ _ h => h) (.inr ⟨by kernel_rfl, rfl⟩) ?_
      refine M.takeD (i := 20) (v := undef) 34 rfl rfl (by kernel_rfl) (by kernel_rfl) (by kernel_rfl) (fun _ _ _ h => h) (.inr ⟨by kernel_rfl, rfl⟩) ?_
      refine M.takeD (i := 21) (v := undef) 35 rfl rfl (by kernel_rfl) (by kernel_rfl) (by kernel_rfl) (fun _ _ _ h => h) (.inr ⟨by kernel_rfl, rfl⟩) ?_
      refine M.takeD (i := 22) (v := .bool false) 36 rfl rfl (by kernel_rfl) (by kernel_rfl) (by kernel_rfl) (fun _ _ _ h => h) (.inl ⟨by kernel_rfl, fun w' => by go_simp⟩) ?_
      refine M.takeD (i := 23) (v := .bool false) 37 rfl rfl (by kernel_rfl) (by kernel_rfl) (by kernel_rfl) (fun _ _ _ h => h) (.inl ⟨by kernel_rfl, fun w' => by go_simp⟩) ?_
      refine M.takeD (i := 24) (v := .bool false) 38 rfl rfl (by kernel_rfl) (by kernel_rfl) (by kernel_rfl) (fun _ _ _ h => h) (.inl ⟨by kernel_rfl, fun w' => by go_simp⟩) ?_
      refine M.takeD (i := 25) (v := .slice (some ⟨b, off, none⟩) n c) 39 rfl rfl (by kernel_rfl) (by kernel_rfl) (by kernel_rfl) (fun _ _ _ h => h) (.inl ⟨by kernel_rfl, fun w' => by go_simp⟩) ?_
      refine M.takeD (i := 26) (v := .slice (some ⟨b, off, none⟩) n c) 40 rfl rfl (by kernel_rfl) (by kernel_rfl) (by kernel_rfl) (fun _ _ _ h => h) (.inl ⟨by kernel_rfl, fun w' => by go_simp⟩) ?_
      refine M.takeD (i := 27) (v := .int .i64 (k : Int)) 41 rfl rfl (by kernel_rfl) (by kernel_rfl) (by kernel_rfl) (fun _ _ _ h => h) (.inl ⟨by kernel_rfl, fun w' => by go_simp⟩) ?_
      refine M.takeD (i := 28) (v := .pointer (some ⟨b, off + k * 9, none⟩)) 42 rfl rfl (by kernel_rfl) (by kernel_rfl) (by kernel_rfl) (fun _ _ _ h => h) (.inl ⟨by kernel_rfl, fun w' => by go_simp⟩) ?_
      refine M.takeD (i := 29) (v := .pointer (some ⟨b, off + k * 9 + 1, none⟩)) 43 rfl rfl (by kernel_rfl) (by kernel_rfl) (by kernel_rfl) (fun _ _ _ h => h) (.inl ⟨by kernel_rfl, fun w' => by go_simp⟩) ?_
      refine wpAny_ready (rs := [30]) (by kernel_rfl) (by simp) ?_
      refine AllReady.cons rfl (fun K hK => ?_) AllReady.nil
      go_simp
      refine hK _ _ ?_
      clear hK K
      refine wpAny_ready (rs := [31]) (by kernel_rfl) (by simp) ?_
      refine AllReady.cons rfl (fun K hK => ?_) AllReady.nil
      refine M.stepCallE2 45 rfl (by kernel_rfl) 26 (.tmp 39) (.tmp 44) 25 9 rfl (.slice (some ⟨b, off, none⟩) n c) (.string d.host) (by simp [Act.eval]) (by simp [Act.eval]) _ (CM.out _ A5.out) (by kernel_rfl) ?_
      rintro v6 w6 ⟨hO6, hb6⟩
      obtain ⟨a6, c6, rfl, hM6⟩ := hO6.mks
      have M6 := M.hl hM6
      have B6 := M.hl (M.sl B5.out hb6)
      clear hO6 hb6 hM6
      try go_simp
      refine hK _ _ ?_
      clear hK K
      refine wpAny_ready (rs := [32]) (by kernel_rfl) (by simp) ?_
      refine AllReady.cons rfl (fun K hK => ?_) AllReady.nil
      refine M.stepCallE1 46 rfl (by kernel_rfl) 25 (.tmp 45) 50 rfl (.slice a6 (M.marksOf ds d.host).length c6) (by simp [Act.eval]) _ (M.marksRB M6.out) (by kernel_rfl) ?_
      rintro v7 w7 ⟨v, rfl, hv7, hb7⟩
      have B7 := M.hl (M.sl B6.out hb7)
      have HV7 := M.hl hv7
      clear hv7 hb7
      try go_simp
      refine hK _ _ ?_
      clear hK K
      refine M.takeD (i := 33) (v := .bool (!v)) 47 rfl rfl (by kernel_rfl) (by kernel_rfl) (by kernel_rfl) (fun _ _ _ h => h) (.inl ⟨by kernel_rfl, fun w' => by go_simp⟩) ?_
      refine M.takeD (i := 34) (v := .bool (!v)) 48 rfl rfl (by kernel_rfl) (by kernel_rfl) (by kernel_rfl) (fun _ _ _ h => h) (.inl ⟨by kernel_rfl, fun w' => by go_simp⟩) ?_
      refine wpAny_done (by kernel_rfl) ?_ _
      try go_simp
      all_goals
        cases v with
        | false =>
          have HX : Hid (¬ C) := HX0.out k d HFK.out (fun hc => absurd (HV7.out.2 hc.2.2.1) (by simp))
          go_wp2
          go_ret
          exact ⟨false, rfl, ⟨fun h => (by cases h), fun h => absurd h HX.out⟩, B7.out⟩
        | true =>
          have HMR : Hid (M.MarksR (M.marksOf ds d.host)) := HV7.out.1 rfl
          clear HV7
          clear CR CM
          simp only [Bool.not_true]
          go_wp2
          go_loopw [4] (fun i wr => ∃ q : Nat, i = .int .i64 q ∧ q ≤ k ∧ Hid (∀ p g, p < q → ds[p]? = some g → g.host = d.host → g.run < d.run) ∧ Hid (Below w.heap.size w wr)) (fun i _ => k - (intOf i).toNat)
          case atStart => exact ⟨0, rfl, Nat.zero_le _, (fun p g hp => absurd hp (Nat.not_lt_zero _)), B7⟩
          case round =>
            obtain ⟨q, rfl, hq, HQ, HBq⟩ := hrel
            by_cases hqk : q < k
            case neg =>
              have HA2 := M.hl (HNX.out HID.out HMR.out (fun p g hp hg he => HQ.out p g (by omega) hg he))
              go_wp2
              go_roundw
              case rel => exact ⟨k + 1, by go_num, by omega, HA2, HBq⟩
              case measure => simp [intOf]; omega
            obtain ⟨b1, off1, d1, e1, hf1, ⟨x0, x1, x2, -⟩, -⟩ := (HF.out.below HBq.out).at hlt
            obtain ⟨b2, off2, g, e2, hg2, ⟨y0, y1, y2, -⟩, -⟩ := (HF.out.below HBq.out).at (k := q) (by omega)
            cases e1
            cases e2
            rw [HFK.out] at hf1
            obtain rfl := Option.some.inj hf1
            have HG2 := M.hl hg2
            have hql : (q : Int) < (n : Int) := by omega
            clear hf1 hg2
            by_cases hh : g.host = d.host
            case neg =>
              have e0 : (g.host.toList == d.host.toList) = false := by
                cases e : (g.host.toList == d.host.toList)
                · rfl
                · exact absurd (M.sameT.1 e) hh
              have HQ2 : Hid (∀ p g, p < q + 1 → ds[p]? = some g → g.host = d.host → g.run < d.run) := fun p x hp hx he => by
                by_cases e : p = q
                · subst e
                  rw [HG2.out] at hx
                  obtain rfl := Option.some.inj hx
                  exact absurd he hh
                · exact HQ.out p x (by omega) hx he
              clear hh
              go_wp2_with fail
              refine wp_region_any (by kernel_rfl) ?_
              change wpAny _ _ _ _ _ _ _ (World.drew _)
              refine M.takeD (i := 0) (v := .slice (some ⟨b, off, none⟩) n c) 54 rfl rfl (by kernel_rfl) (by kernel_rfl) (by kernel_rfl) (fun _ _ _ h => h) (.inl ⟨by kernel_rfl, fun w' => by go_simp⟩) ?_
              refine M.takeD (i := 1) (v := .int .i64 (q : Int)) 55 rfl rfl (by kernel_rfl) (by kernel_rfl) (by kernel_rfl) (fun _ _ _ h => h) (.inl ⟨by kernel_rfl, fun w' => by go_simp⟩) ?_
              refine M.takeD (i := 2) (v := .pointer (some ⟨b, off + q * 9, none⟩)) 56 rfl rfl (by kernel_rfl) (by kernel_rfl) (by kernel_rfl) (fun _ _ _ h => h) (.inl ⟨by kernel_rfl, fun w' => by go_simp⟩) ?_
              refine M.takeD (i := 3) (v := .pointer (some ⟨b, off + q * 9 + 1, none⟩)) 57 rfl rfl (by kernel_rfl) (by kernel_rfl) (by kernel_rfl) (fun _ _ _ h => h) (.inl ⟨by kernel_rfl, fun w' => by go_simp⟩) ?_
              refine M.takeD (i := 5) (v := .slice (some ⟨b, off, none⟩) n c) 59 rfl rfl (by kernel_rfl) (by kernel_rfl) (by kernel_rfl) (fun _ _ _ h => h) (.inl ⟨by kernel_rfl, fun w' => by go_simp⟩) ?_
              refine M.takeD (i := 6) (v := .int .i64 (k : Int)) 60 rfl rfl (by kernel_rfl) (by kernel_rfl) (by kernel_rfl) (fun _ _ _ h => h) (.inl ⟨by kernel_rfl, fun w' => by go_simp⟩) ?_
              refine M.takeD (i := 7) (v := .pointer (some ⟨b, off + k * 9, none⟩)) 61 rfl rfl (by kernel_rfl) (by kernel_rfl) (by kernel_rfl) (fun _ _ _ h => h) (.inl ⟨by kernel_rfl, fun w' => by go_simp⟩) ?_
              refine M.takeD (i := 8) (v := .pointer (some ⟨b, off + k * 9 + 1, none⟩)) 62 rfl rfl (by kernel_rfl) (by kernel_rfl) (by kernel_rfl) (fun _ _ _ h => h) (.inl ⟨by kernel_rfl, fun w' => by go_simp⟩) ?_
              refine wpAny_ready (rs := [4, 9]) (by kernel_rfl) (by simp) ?_
              refine AllReady.cons rfl (fun K hK => ?_) (AllReady.cons rfl (fun K hK => ?_) AllReady.nil)
              · go_simp
                refine hK _ _ ?_
                clear hK K
                refine wpAny_ready (rs := [9]) (by kernel_rfl) (by simp) ?_
                refine AllReady.cons rfl (fun K hK => ?_) AllReady.nil
                go_simp
                refine hK _ _ ?_
                clear hK K
                refine M.takeD (i := 10) (v := .bool false) 64 rfl rfl (by kernel_rfl) (by kernel_rfl) (by kernel_rfl) (fun _ _ _ h => h) (.inl ⟨by kernel_rfl, fun w' => by go_simp⟩) ?_
                refine M.takeD (i := 11) (v := .bool false) 65 rfl rfl (by kernel_rfl) (by kernel_rfl) (by kernel_rfl) (fun _ _ _ h => h) (.inl ⟨by kernel_rfl, fun w' => by go_simp⟩) ?_
                refine M.takeD (i := 12) (v := undef) 66 rfl rfl (by kernel_rfl) (by kernel_rfl) (by kernel_rfl) (fun _ _ _ h => h) (.inr ⟨by kernel_rfl, rfl⟩) ?_
                refine M.takeD (i := 13) (v := undef) 67 rfl rfl (by kernel_rfl) (by kernel_rfl) (by kernel_rfl) (fun _ _ _ h => h) (.inr ⟨by kernel_rfl, rfl⟩) ?_
                refine M.takeD (i := 14) (v := undef) 68 rfl rfl (by kernel_rfl) (by kernel_rfl) (by kernel_rfl) (fun _ _ _ h => h) (.inr ⟨by kernel_rfl, rfl⟩) ?_
                refine M.takeD (i := 15) (v := undef) 69 rfl rfl (by kernel_rfl) (by kernel_rfl) (by kernel_rfl) (fun _ _ _ h => h) (.inr ⟨by kernel_rfl, rfl⟩) ?_
                refine M.takeD (i := 16) (v := undef) 70 rfl rfl (by kernel_rfl) (by kernel_rfl) (by kernel_rfl) (fun _ _ _ h => h) (.inr ⟨by kernel_rfl, rfl⟩) ?_
                refine M.takeD (i := 17) (v := undef) 71 rfl rfl (by kernel_rfl) (by kernel_rfl) (by kernel_rfl) (fun _ _ _ h => h) (.inr ⟨by kernel_rfl, rfl⟩) ?_
                refine M.takeD (i := 18) (v := undef) 72 rfl rfl (by kernel_rfl) (by kernel_rfl) (by kernel_rfl) (fun _ _ _ h => h) (.inr ⟨by kernel_rfl, rfl⟩) ?_
                refine M.takeD (i := 19) (v := undef) 73 rfl rfl (by kernel_rfl) (by kernel_rfl) (by kernel_rfl) (fun _ _ _ h => h) (.inr ⟨by kernel_rfl, rfl⟩) ?_
                refine M.takeD (i := 20) (v := undef) 74 rfl rfl (by kernel_rfl) (by kernel_rfl) (by kernel_rfl) (fun _ _ _ h => h) (.inr ⟨by kernel_rfl, rfl⟩) ?_
                refine M.takeD (i := 21) (v := undef) 75 rfl rfl (by kernel_rfl) (by kernel_rfl) (by kernel_rfl) (fun _ _ _ h => h) (.inr ⟨by kernel_rfl, rfl⟩) ?_
                refine M.takeD (i := 22) (v := undef) 76 rfl rfl (by kernel_rfl) (by kernel_rfl) (by kernel_rfl) (fun _ _ _ h => h) (.inr ⟨by kernel_rfl, rfl⟩) ?_
                refine M.takeD (i := 23) (v := .bool false) 77 rfl rfl (by kernel_rfl) (by kernel_rfl) (by kernel_rfl) (fun _ _ _ h => h) (.inl ⟨by kernel_rfl, fun w' => by go_simp⟩) ?_
                refine wpAny_done (by kernel_rfl) ?_ _
                try go_simp
                clear x0 x1 x2 y0 y1 y2
                go_wp2
                go_roundw
                case rel => exact ⟨q + 1, by go_num, by omega, HQ2, HBq.out.drew⟩
                case measure => simp [intOf]; omega
              · go_simp
                refine hK _ _ ?_
                clear hK K
                refine wpAny_ready (rs := [4]) (by kernel_rfl) (by simp) ?_
                refine AllReady.cons rfl (fun K hK => ?_) AllReady.nil
                go_simp
                refine hK _ _ ?_
                clear hK K
                refine M.takeD (i := 10) (v := .bool false) 64 rfl rfl (by kernel_rfl) (by kernel_rfl) (by kernel_rfl) (fun _ _ _ h => h) (.inl ⟨by kernel_rfl, fun w' => by go_simp⟩) ?_
                refine M.takeD (i := 11) (v := .bool false) 65 rfl rfl (by kernel_rfl) (by kernel_rfl) (by kernel_rfl) (fun _ _ _ h => h) (.inl ⟨by kernel_rfl, fun w' => by go_simp⟩) ?_
                refine M.takeD (i := 12) (v := undef) 66 rfl rfl (by kernel_rfl) (by kernel_rfl) (by kernel_rfl) (fun _ _ _ h => h) (.inr ⟨by kernel_rfl, rfl⟩) ?_
                refine M.takeD (i := 13) (v := undef) 67 rfl rfl (by kernel_rfl) (by kernel_rfl) (by kernel_rfl) (fun _ _ _ h => h) (.inr ⟨by kernel_rfl, rfl⟩) ?_
                refine M.takeD (i := 14) (v := undef) 68 rfl rfl (by kernel_rfl) (by kernel_rfl) (by kernel_rfl) (fun _ _ _ h => h) (.inr ⟨by kernel_rfl, rfl⟩) ?_
                refine M.takeD (i := 15) (v := undef) 69 rfl rfl (by kernel_rfl) (by kernel_rfl) (by kernel_rfl) (fun _ _ _ h => h) (.inr ⟨by kernel_rfl, rfl⟩) ?_
                refine M.takeD (i := 16) (v := undef) 70 rfl rfl (by kernel_rfl) (by kernel_rfl) (by kernel_rfl) (fun _ _ _ h => h) (.inr ⟨by kernel_rfl, rfl⟩) ?_
                refine M.takeD (i := 17) (v := undef) 71 rfl rfl (by kernel_rfl) (by kernel_rfl) (by kernel_rfl) (fun _ _ _ h => h) (.inr ⟨by kernel_rfl, rfl⟩) ?_
                refine M.takeD (i := 18) (v := undef) 72 rfl rfl (by kernel_rfl) (by kernel_rfl) (by kernel_rfl) (fun _ _ _ h => h) (.inr ⟨by kernel_rfl, rfl⟩) ?_
                refine M.takeD (i := 19) (v := undef) 73 rfl rfl (by kernel_rfl) (by kernel_rfl) (by kernel_rfl) (fun _ _ _ h => h) (.inr ⟨by kernel_rfl, rfl⟩) ?_
                refine M.takeD (i := 20) (v := undef) 74 rfl rfl (by kernel_rfl) (by kernel_rfl) (by kernel_rfl) (fun _ _ _ h => h) (.inr ⟨by kernel_rfl, rfl⟩) ?_
                refine M.takeD (i := 21) (v := undef) 75 rfl rfl (by kernel_rfl) (by kernel_rfl) (by kernel_rfl) (fun _ _ _ h => h) (.inr ⟨by kernel_rfl, rfl⟩) ?_
                refine M.takeD (i := 22) (v := undef) 76 rfl rfl (by kernel_rfl) (by kernel_rfl) (by kernel_rfl) (fun _ _ _ h => h) (.inr ⟨by kernel_rfl, rfl⟩) ?_
                refine M.takeD (i := 23) (v := .bool false) 77 rfl rfl (by kernel_rfl) (by kernel_rfl) (by kernel_rfl) (fun _ _ _ h => h) (.inl ⟨by kernel_rfl, fun w' => by go_simp⟩) ?_
                refine wpAny_done (by kernel_rfl) ?_ _
                try go_simp
                clear x0 x1 x2 y0 y1 y2
                go_wp2
                go_roundw
                case rel => exact ⟨q + 1, by go_num, by omega, HQ2, HBq.out.drew⟩
                case measure => simp [intOf]; omega
            have e0 : (g.host.toList == d.host.toList) = true := by rw [hh]; simp
            have HH := M.hl hh
            clear hh
            by_cases hle : d.run ≤ g.run
            case neg =>
              have e3 : decide (d.run ≤ g.run) = false := decide_eq_false hle
              have HQ2 : Hid (∀ p g, p < q + 1 → ds[p]? = some g → g.host = d.host → g.run < d.run) := fun p x hp hx he => by
                by_cases e : p = q
                · subst e
                  rw [HG2.out] at hx
                  obtain rfl := Option.some.inj hx
                  omega
                · exact HQ.out p x (by omega) hx he
              clear hle
              go_wp2_with fail
              refine wp_region_any (by kernel_rfl) ?_
              change wpAny _ _ _ _ _ _ _ (World.drew _)
              refine M.takeD (i := 0) (v := .slice (some ⟨b, off, none⟩) n c) 54 rfl rfl (by kernel_rfl) (by kernel_rfl) (by kernel_rfl) (fun _ _ _ h => h) (.inl ⟨by kernel_rfl, fun w' => by go_simp⟩) ?_
              refine M.takeD (i := 1) (v := .int .i64 (q : Int)) 55 rfl rfl (by kernel_rfl) (by kernel_rfl) (by kernel_rfl) (fun _ _ _ h => h) (.inl ⟨by kernel_rfl, fun w' => by go_simp⟩) ?_
              refine M.takeD (i := 2) (v := .pointer (some ⟨b, off + q * 9, none⟩)) 56 rfl rfl (by kernel_rfl) (by kernel_rfl) (by kernel_rfl) (fun _ _ _ h => h) (.inl ⟨by kernel_rfl, fun w' => by go_simp⟩) ?_
              refine M.takeD (i := 3) (v := .pointer (some ⟨b, off + q * 9 + 1, none⟩)) 57 rfl rfl (by kernel_rfl) (by kernel_rfl) (by kernel_rfl) (fun _ _ _ h => h) (.inl ⟨by kernel_rfl, fun w' => by go_simp⟩) ?_
              refine M.takeD (i := 5) (v := .slice (some ⟨b, off, none⟩) n c) 59 rfl rfl (by kernel_rfl) (by kernel_rfl) (by kernel_rfl) (fun _ _ _ h => h) (.inl ⟨by kernel_rfl, fun w' => by go_simp⟩) ?_
              refine M.takeD (i := 6) (v := .int .i64 (k : Int)) 60 rfl rfl (by kernel_rfl) (by kernel_rfl) (by kernel_rfl) (fun _ _ _ h => h) (.inl ⟨by kernel_rfl, fun w' => by go_simp⟩) ?_
              refine M.takeD (i := 7) (v := .pointer (some ⟨b, off + k * 9, none⟩)) 61 rfl rfl (by kernel_rfl) (by kernel_rfl) (by kernel_rfl) (fun _ _ _ h => h) (.inl ⟨by kernel_rfl, fun w' => by go_simp⟩) ?_
              refine M.takeD (i := 8) (v := .pointer (some ⟨b, off + k * 9 + 1, none⟩)) 62 rfl rfl (by kernel_rfl) (by kernel_rfl) (by kernel_rfl) (fun _ _ _ h => h) (.inl ⟨by kernel_rfl, fun w' => by go_simp⟩) ?_
              refine wpAny_ready (rs := [4, 9]) (by kernel_rfl) (by simp) ?_
              refine AllReady.cons rfl (fun K hK => ?_) (AllReady.cons rfl (fun K hK => ?_) AllReady.nil)
              · go_simp
                refine hK _ _ ?_
                clear hK K
                refine wpAny_ready (rs := [9]) (by kernel_rfl) (by simp) ?_
                refine AllReady.cons rfl (fun K hK => ?_) AllReady.nil
                go_simp
                refine hK _ _ ?_
                clear hK K
                refine M.takeD (i := 10) (v := .bool true) 64 rfl rfl (by kernel_rfl) (by kernel_rfl) (by kernel_rfl) (fun _ _ _ h => h) (.inl ⟨by kernel_rfl, fun w' => by go_simp⟩) ?_
                refine M.takeD (i := 11) (v := .bool true) 65 rfl rfl (by kernel_rfl) (by kernel_rfl) (by kernel_rfl) (fun _ _ _ h => h) (.inl ⟨by kernel_rfl, fun w' => by go_simp⟩) ?_
                refine M.takeD (i := 12) (v := .slice (some ⟨b, off, none⟩) n c) 66 rfl rfl (by kernel_rfl) (by kernel_rfl) (by kernel_rfl) (fun _ _ _ h => h) (.inl ⟨by kernel_rfl, fun w' => by go_simp⟩) ?_
                refine M.takeD (i := 13) (v := .int .i64 (q : Int)) 67 rfl rfl (by kernel_rfl) (by kernel_rfl) (by kernel_rfl) (fun _ _ _ h => h) (.inl ⟨by kernel_rfl, fun w' => by go_simp⟩) ?_
                refine M.takeD (i := 14) (v := .pointer (some ⟨b, off + q * 9, none⟩)) 68 rfl rfl (by kernel_rfl) (by kernel_rfl) (by kernel_rfl) (fun _ _ _ h => h) (.inl ⟨by kernel_rfl, fun w' => by go_simp⟩) ?_
                refine M.takeD (i := 15) (v := .pointer (some ⟨b, off + q * 9 + 2, none⟩)) 69 rfl rfl (by kernel_rfl) (by kernel_rfl) (by kernel_rfl) (fun _ _ _ h => h) (.inl ⟨by kernel_rfl, fun w' => by go_simp⟩) ?_
                refine M.takeD (i := 17) (v := .slice (some ⟨b, off, none⟩) n c) 71 rfl rfl (by kernel_rfl) (by kernel_rfl) (by kernel_rfl) (fun _ _ _ h => h) (.inl ⟨by kernel_rfl, fun w' => by go_simp⟩) ?_
                refine M.takeD (i := 18) (v := .int .i64 (k : Int)) 72 rfl rfl (by kernel_rfl) (by kernel_rfl) (by kernel_rfl) (fun _ _ _ h => h) (.inl ⟨by kernel_rfl, fun w' => by go_simp⟩) ?_
                refine M.takeD (i := 19) (v := .pointer (some ⟨b, off + k * 9, none⟩)) 73 rfl rfl (by kernel_rfl) (by kernel_rfl) (by kernel_rfl) (fun _ _ _ h => h) (.inl ⟨by kernel_rfl, fun w' => by go_simp⟩) ?_
                refine M.takeD (i := 20) (v := .pointer (some ⟨b, off + k * 9 + 2, none⟩)) 74 rfl rfl (by kernel_rfl) (by kernel_rfl) (by kernel_rfl) (fun _ _ _ h => h) (.inl ⟨by kernel_rfl, fun w' => by go_simp⟩) ?_
                refine wpAny_ready (rs := [16, 21]) (by kernel_rfl) (by simp) ?_
                refine AllReady.cons rfl (fun K hK => ?_) (AllReady.cons rfl (fun K hK => ?_) AllReady.nil)
                · go_simp
                  refine hK _ _ ?_
                  clear hK K
                  refine wpAny_ready (rs := [21]) (by kernel_rfl) (by simp) ?_
                  refine AllReady.cons rfl (fun K hK => ?_) AllReady.nil
                  go_simp
                  refine hK _ _ ?_
                  clear hK K
                  refine M.takeD (i := 22) (v := .bool false) 76 rfl rfl (by kernel_rfl) (by kernel_rfl) (by kernel_rfl) (fun _ _ _ h => h) (.inl ⟨by kernel_rfl, fun w' => by go_simp⟩) ?_
                  refine M.takeD (i := 23) (v := .bool false) 77 rfl rfl (by kernel_rfl) (by kernel_rfl) (by kernel_rfl) (fun _ _ _ h => h) (.inl ⟨by kernel_rfl, fun w' => by go_simp⟩) ?_
                  refine wpAny_done (by kernel_rfl) ?_ _
                  try go_simp
                  clear x0 x1 x2 y0 y1 y2
                  go_wp2
                  go_roundw
                  case rel => exact ⟨q + 1, by go_num, by omega, HQ2, HBq.out.drew⟩
                  case measure => simp [intOf]; omega
                · go_simp
                  refine hK _ _ ?_
                  clear hK K
                  refine wpAny_ready (rs := [16]) (by kernel_rfl) (by simp) ?_
                  refine AllReady.cons rfl (fun K hK => ?_) AllReady.nil
                  go_simp
                  refine hK _ _ ?_
                  clear hK K
                  refine M.takeD (i := 22) (v := .bool false) 76 rfl rfl (by kernel_rfl) (by kernel_rfl) (by kernel_rfl) (fun _ _ _ h => h) (.inl ⟨by kernel_rfl, fun w' => by go_simp⟩) ?_
                  refine M.takeD (i := 23) (v := .bool false) 77 rfl rfl (by kernel_rfl) (by kernel_rfl) (by kernel_rfl) (fun _ _ _ h => h) (.inl ⟨by kernel_rfl, fun w' => by go_simp⟩) ?_
                  refine wpAny_done (by kernel_rfl) ?_ _
                  try go_simp
                  clear x0 x1 x2 y0 y1 y2
                  go_wp2
                  go_roundw
                  case rel => exact ⟨q + 1, by go_num, by omega, HQ2, HBq.out.drew⟩
                  case measure => simp [intOf]; omega
              · go_simp
                refine hK _ _ ?_
                clear hK K
                refine wpAny_ready (rs := [4]) (by kernel_rfl) (by simp) ?_
                refine AllReady.cons rfl (fun K hK => ?_) AllReady.nil
                go_simp
                refine hK _ _ ?_
                clear hK K
                refine M.takeD (i := 10) (v := .bool true) 64 rfl rfl (by kernel_rfl) (by kernel_rfl) (by kernel_rfl) (fun _ _ _ h => h) (.inl ⟨by kernel_rfl, fun w' => by go_simp⟩) ?_
                refine M.takeD (i := 11) (v := .bool true) 65 rfl rfl (by kernel_rfl) (by kernel_rfl) (by kernel_rfl) (fun _ _ _ h => h) (.inl ⟨by kernel_rfl, fun w' => by go_simp⟩) ?_
                refine M.takeD (i := 12) (v := .slice (some ⟨b, off, none⟩) n c) 66 rfl rfl (by kernel_rfl) (by kernel_rfl) (by kernel_rfl) (fun _ _ _ h => h) (.inl ⟨by kernel_rfl, fun w' => by go_simp⟩) ?_
                refine M.takeD (i := 13) (v := .int .i64 (q : Int)) 67 rfl rfl (by kernel_rfl) (by kernel_rfl) (by kernel_rfl) (fun _ _ _ h => h) (.inl ⟨by kernel_rfl, fun w' => by go_simp⟩) ?_
                refine M.takeD (i := 14) (v := .pointer (some ⟨b, off + q * 9, none⟩)) 68 rfl rfl (by kernel_rfl) (by kernel_rfl) (by kernel_rfl) (fun _ _ _ h => h) (.inl ⟨by kernel_rfl, fun w' => by go_simp⟩) ?_
                refine M.takeD (i := 15) (v := .pointer (some ⟨b, off + q * 9 + 2, none⟩)) 69 rfl rfl (by kernel_rfl) (by kernel_rfl) (by kernel_rfl) (fun _ _ _ h => h) (.inl ⟨by kernel_rfl, fun w' => by go_simp⟩) ?_
                refine M.takeD (i := 17) (v := .slice (some ⟨b, off, none⟩) n c) 71 rfl rfl (by kernel_rfl) (by kernel_rfl) (by kernel_rfl) (fun _ _ _ h => h) (.inl ⟨by kernel_rfl, fun w' => by go_simp⟩) ?_
                refine M.takeD (i := 18) (v := .int .i64 (k : Int)) 72 rfl rfl (by kernel_rfl) (by kernel_rfl) (by kernel_rfl) (fun _ _ _ h => h) (.inl ⟨by kernel_rfl, fun w' => by go_simp⟩) ?_
                refine M.takeD (i := 19) (v := .pointer (some ⟨b, off + k * 9, none⟩)) 73 rfl rfl (by kernel_rfl) (by kernel_rfl) (by kernel_rfl) (fun _ _ _ h => h) (.inl ⟨by kernel_rfl, fun w' => by go_simp⟩) ?_
                refine M.takeD (i := 20) (v := .pointer (some ⟨b, off + k * 9 + 2, none⟩)) 74 rfl rfl (by kernel_rfl) (by kernel_rfl) (by kernel_rfl) (fun _ _ _ h => h) (.inl ⟨by kernel_rfl, fun w' => by go_simp⟩) ?_
                refine wpAny_ready (rs := [16, 21]) (by kernel_rfl) (by simp) ?_
                refine AllReady.cons rfl (fun K hK => ?_) (AllReady.cons rfl (fun K hK => ?_) AllReady.nil)
                · go_simp
                  refine hK _ _ ?_
                  clear hK K
                  refine wpAny_ready (rs := [21]) (by kernel_rfl) (by simp) ?_
                  refine AllReady.cons rfl (fun K hK => ?_) AllReady.nil
                  go_simp
                  refine hK _ _ ?_
                  clear hK K
                  refine M.takeD (i := 22) (v := .bool false) 76 rfl rfl (by kernel_rfl) (by kernel_rfl) (by kernel_rfl) (fun _ _ _ h => h) (.inl ⟨by kernel_rfl, fun w' => by go_simp⟩) ?_
                  refine M.takeD (i := 23) (v := .bool false) 77 rfl rfl (by kernel_rfl) (by kernel_rfl) (by kernel_rfl) (fun _ _ _ h => h) (.inl ⟨by kernel_rfl, fun w' => by go_simp⟩) ?_
                  refine wpAny_done (by kernel_rfl) ?_ _
                  try go_simp
                  clear x0 x1 x2 y0 y1 y2
                  go_wp2
                  go_roundw
                  case rel => exact ⟨q + 1, by go_num, by omega, HQ2, HBq.out.drew⟩
                  case measure => simp [intOf]; omega
                · go_simp
                  refine hK _ _ ?_
                  clear hK K
                  refine wpAny_ready (rs := [16]) (by kernel_rfl) (by simp) ?_
                  refine AllReady.cons rfl (fun K hK => ?_) AllReady.nil
                  go_simp
                  refine hK _ _ ?_
                  clear hK K
                  refine M.takeD (i := 22) (v := .bool false) 76 rfl rfl (by kernel_rfl) (by kernel_rfl) (by kernel_rfl) (fun _ _ _ h => h) (.inl ⟨by kernel_rfl, fun w' => by go_simp⟩) ?_
                  refine M.takeD (i := 23) (v := .bool false) 77 rfl rfl (by kernel_rfl) (by kernel_rfl) (by kernel_rfl) (fun _ _ _ h => h) (.inl ⟨by kernel_rfl, fun w' => by go_simp⟩) ?_
                  refine wpAny_done (by kernel_rfl) ?_ _
                  try go_simp
                  clear x0 x1 x2 y0 y1 y2
                  go_wp2
                  go_roundw
                  case rel => exact ⟨q + 1, by go_num, by omega, HQ2, HBq.out.drew⟩
                  case measure => simp [intOf]; omega
            have e3 : decide (d.run ≤ g.run) = true := decide_eq_true hle
            have HX : Hid (¬ C) := HX0.out k d HFK.out (fun hc => by have := hc.2.2.2 q g hqk HG2.out HH.out; omega)
            clear hle
            go_wp2_with fail
            refine wp_region_any (by kernel_rfl) ?_
            change wpAny _ _ _ _ _ _ _ (World.drew _)
            refine M.takeD (i := 0) (v := .slice (some ⟨b, off, none⟩) n c) 54 rfl rfl (by kernel_rfl) (by kernel_rfl) (by kernel_rfl) (fun _ _ _ h => h) (.inl ⟨by kernel_rfl, fun w' => by go_simp⟩) ?_
            refine M.takeD (i := 1) (v := .int .i64 (q : Int)) 55 rfl rfl (by kernel_rfl) (by kernel_rfl) (by kernel_rfl) (fun _ _ _ h => h) (.inl ⟨by kernel_rfl, fun w' => by go_simp⟩) ?_
            refine M.takeD (i := 2) (v := .pointer (some ⟨b, off + q * 9, none⟩)) 56 rfl rfl (by kernel_rfl) (by kernel_rfl) (by kernel_rfl) (fun _ _ _ h => h) (.inl ⟨by kernel_rfl, fun w' => by go_simp⟩) ?_
            refine M.takeD (i := 3) (v := .pointer (some ⟨b, off + q * 9 + 1, none⟩)) 57 rfl rfl (by kernel_rfl) (by kernel_rfl) (by kernel_rfl) (fun _ _ _ h => h) (.inl ⟨by kernel_rfl, fun w' => by go_simp⟩) ?_
            refine M.takeD (i := 5) (v := .slice (some ⟨b, off, none⟩) n c) 59 rfl rfl (by kernel_rfl) (by kernel_rfl) (by kernel_rfl) (fun _ _ _ h => h) (.inl ⟨by kernel_rfl, fun w' => by go_simp⟩) ?_
            refine M.takeD (i := 6) (v := .int .i64 (k : Int)) 60 rfl rfl (by kernel_rfl) (by kernel_rfl) (by kernel_rfl) (fun _ _ _ h => h) (.inl ⟨by kernel_rfl, fun w' => by go_simp⟩) ?_
            refine M.takeD (i := 7) (v := .pointer (some ⟨b, off + k * 9, none⟩)) 61 rfl rfl (by kernel_rfl) (by kernel_rfl) (by kernel_rfl) (fun _ _ _ h => h) (.inl ⟨by kernel_rfl, fun w' => by go_simp⟩) ?_
            refine M.takeD (i := 8) (v := .pointer (some ⟨b, off + k * 9 + 1, none⟩)) 62 rfl rfl (by kernel_rfl) (by kernel_rfl) (by kernel_rfl) (fun _ _ _ h => h) (.inl ⟨by kernel_rfl, fun w' => by go_simp⟩) ?_
            refine wpAny_ready (rs := [4, 9]) (by kernel_rfl) (by simp) ?_
            refine AllReady.cons rfl (fun K hK => ?_) (AllReady.cons rfl (fun K hK => ?_) AllReady.nil)
            · go_simp
              refine hK _ _ ?_
              clear hK K
              refine wpAny_ready (rs := [9]) (by kernel_rfl) (by simp) ?_
              refine AllReady.cons rfl (fun K hK => ?_) AllReady.nil
              go_simp
              refine hK _ _ ?_
              clear hK K
              refine M.takeD (i := 10) (v := .bool true) 64 rfl rfl (by kernel_rfl) (by kernel_rfl) (by kernel_rfl) (fun _ _ _ h => h) (.inl ⟨by kernel_rfl, fun w' => by go_simp⟩) ?_
              refine M.takeD (i := 11) (v := .bool true) 65 rfl rfl (by kernel_rfl) (by kernel_rfl) (by kernel_rfl) (fun _ _ _ h => h) (.inl ⟨by kernel_rfl, fun w' => by go_simp⟩) ?_
              refine M.takeD (i := 12) (v := .slice (some ⟨b, off, none⟩) n c) 66 rfl rfl (by kernel_rfl) (by kernel_rfl) (by kernel_rfl) (fun _ _ _ h => h) (.inl ⟨by kernel_rfl, fun w' => by go_simp⟩) ?_
              refine M.takeD (i := 13) (v := .int .i64 (q : Int)) 67 rfl rfl (by kernel_rfl) (by kernel_rfl) (by kernel_rfl) (fun _ _ _ h => h) (.inl ⟨by kernel_rfl, fun w' => by go_simp⟩) ?_
              refine M.takeD (i := 14) (v := .pointer (some ⟨b, off + q * 9, none⟩)) 68 rfl rfl (by kernel_rfl) (by kernel_rfl) (by kernel_rfl) (fun _ _ _ h => h) (.inl ⟨by kernel_rfl, fun w' => by go_simp⟩) ?_
              refine M.takeD (i := 15) (v := .pointer (some ⟨b, off + q * 9 + 2, none⟩)) 69 rfl rfl (by kernel_rfl) (by kernel_rfl) (by kernel_rfl) (fun _ _ _ h => h) (.inl ⟨by kernel_rfl, fun w' => by go_simp⟩) ?_
              refine M.takeD (i := 17) (v := .slice (some ⟨b, off, none⟩) n c) 71 rfl rfl (by kernel_rfl) (by kernel_rfl) (by kernel_rfl) (fun _ _ _ h => h) (.inl ⟨by kernel_rfl, fun w' => by go_simp⟩) ?_
              refine M.takeD (i := 18) (v := .int .i64 (k : Int)) 72 rfl rfl (by kernel_rfl) (by kernel_rfl) (by kernel_rfl) (fun _ _ _ h => h) (.inl ⟨by kernel_rfl, fun w' => by go_simp⟩) ?_
              refine M.takeD (i := 19) (v := .pointer (some ⟨b, off + k * 9, none⟩)) 73 rfl rfl (by kernel_rfl) (by kernel_rfl) (by kernel_rfl) (fun _ _ _ h => h) (.inl ⟨by kernel_rfl, fun w' => by go_simp⟩) ?_
              refine M.takeD (i := 20) (v := .pointer (some ⟨b, off + k * 9 + 2, none⟩)) 74 rfl rfl (by kernel_rfl) (by kernel_rfl) (by kernel_rfl) (fun _ _ _ h => h) (.inl ⟨by kernel_rfl, fun w' => by go_simp⟩) ?_
              refine wpAny_ready (rs := [16, 21]) (by kernel_rfl) (by simp) ?_
              refine AllReady.cons rfl (fun K hK => ?_) (AllReady.cons rfl (fun K hK => ?_) AllReady.nil)
              · go_simp
                refine hK _ _ ?_
                clear hK K
                refine wpAny_ready (rs := [21]) (by kernel_rfl) (by simp) ?_
                refine AllReady.cons rfl (fun K hK => ?_) AllReady.nil
                go_simp
                refine hK _ _ ?_
                clear hK K
                refine M.takeD (i := 22) (v := .bool true) 76 rfl rfl (by kernel_rfl) (by kernel_rfl) (by kernel_rfl) (fun _ _ _ h => h) (.inl ⟨by kernel_rfl, fun w' => by go_simp⟩) ?_
                refine M.takeD (i := 23) (v := .bool true) 77 rfl rfl (by kernel_rfl) (by kernel_rfl) (by kernel_rfl) (fun _ _ _ h => h) (.inl ⟨by kernel_rfl, fun w' => by go_simp⟩) ?_
                refine wpAny_done (by kernel_rfl) ?_ _
                try go_simp
                clear x0 x1 x2 y0 y1 y2
                go_wp2
                go_ret
                exact ⟨false, rfl, ⟨fun h => (by cases h), fun h => absurd h HX.out⟩, HBq.out.drew⟩
              · go_simp
                refine hK _ _ ?_
                clear hK K
                refine wpAny_ready (rs := [16]) (by kernel_rfl) (by simp) ?_
                refine AllReady.cons rfl (fun K hK => ?_) AllReady.nil
                go_simp
                refine hK _ _ ?_
                clear hK K
                refine M.takeD (i := 22) (v := .bool true) 76 rfl rfl (by kernel_rfl) (by kernel_rfl) (by kernel_rfl) (fun _ _ _ h => h) (.inl ⟨by kernel_rfl, fun w' => by go_simp⟩) ?_
                refine M.takeD (i := 23) (v := .bool true) 77 rfl rfl (by kernel_rfl) (by kernel_rfl) (by kernel_rfl) (fun _ _ _ h => h) (.inl ⟨by kernel_rfl, fun w' => by go_simp⟩) ?_
                refine wpAny_done (by kernel_rfl) ?_ _
                try go_simp
                clear x0 x1 x2 y0 y1 y2
                go_wp2
                go_ret
                exact ⟨false, rfl, ⟨fun h => (by cases h), fun h => absurd h HX.out⟩, HBq.out.drew⟩
            · go_simp
              refine hK _ _ ?_
              clear hK K
              refine wpAny_ready (rs := [4]) (by kernel_rfl) (by simp) ?_
              refine AllReady.cons rfl (fun K hK => ?_) AllReady.nil
              go_simp
              refine hK _ _ ?_
              clear hK K
              refine M.takeD (i := 10) (v := .bool true) 64 rfl rfl (by kernel_rfl) (by kernel_rfl) (by kernel_rfl) (fun _ _ _ h => h) (.inl ⟨by kernel_rfl, fun w' => by go_simp⟩) ?_
              refine M.takeD (i := 11) (v := .bool true) 65 rfl rfl (by kernel_rfl) (by kernel_rfl) (by kernel_rfl) (fun _ _ _ h => h) (.inl ⟨by kernel_rfl, fun w' => by go_simp⟩) ?_
              refine M.takeD (i := 12) (v := .slice (some ⟨b, off, none⟩) n c) 66 rfl rfl (by kernel_rfl) (by kernel_rfl) (by kernel_rfl) (fun _ _ _ h => h) (.inl ⟨by kernel_rfl, fun w' => by go_simp⟩) ?_
              refine M.takeD (i := 13) (v := .int .i64 (q : Int)) 67 rfl rfl (by kernel_rfl) (by kernel_rfl) (by kernel_rfl) (fun _ _ _ h => h) (.inl ⟨by kernel_rfl, fun w' => by go_simp⟩) ?_
              refine M.takeD (i := 14) (v := .pointer (some ⟨b, off + q * 9, none⟩)) 68 rfl rfl (by kernel_rfl) (by kernel_rfl) (by kernel_rfl) (fun _ _ _ h => h) (.inl ⟨by kernel_rfl, fun w' => by go_simp⟩) ?_
              refine M.takeD (i := 15) (v := .pointer (some ⟨b, off + q * 9 + 2, none⟩)) 69 rfl rfl (by kernel_rfl) (by kernel_rfl) (by kernel_rfl) (fun _ _ _ h => h) (.inl ⟨by kernel_rfl, fun w' => by go_simp⟩) ?_
              refine M.takeD (i := 17) (v := .slice (some ⟨b, off, none⟩) n c) 71 rfl rfl (by kernel_rfl) (by kernel_rfl) (by kernel_rfl) (fun _ _ _ h => h) (.inl ⟨by kernel_rfl, fun w' => by go_simp⟩) ?_
              refine M.takeD (i := 18) (v := .int .i64 (k : Int)) 72 rfl rfl (by kernel_rfl) (by kernel_rfl) (by kernel_rfl) (fun _ _ _ h => h) (.inl ⟨by kernel_rfl, fun w' => by go_simp⟩) ?_
              refine M.takeD (i := 19) (v := .pointer (some ⟨b, off + k * 9, none⟩)) 73 rfl rfl (by kernel_rfl) (by kernel_rfl) (by kernel_rfl) (fun _ _ _ h => h) (.inl ⟨by kernel_rfl, fun w' => by go_simp⟩) ?_
              refine M.takeD (i := 20) (v := .pointer (some ⟨b, off + k * 9 + 2, none⟩)) 74 rfl rfl (by kernel_rfl) (by kernel_rfl) (by kernel_rfl) (fun _ _ _ h => h) (.inl ⟨by kernel_rfl, fun w' => by go_simp⟩) ?_
              refine wpAny_ready (rs := [16, 21]) (by kernel_rfl) (by simp) ?_
              refine AllReady.cons rfl (fun K hK => ?_) (AllReady.cons rfl (fun K hK => ?_) AllReady.nil)
              · go_simp
                refine hK _ _ ?_
                clear hK K
                refine wpAny_ready (rs := [21]) (by kernel_rfl) (by simp) ?_
                refine AllReady.cons rfl (fun K hK => ?_) AllReady.nil
                go_simp
                refine hK _ _ ?_
                clear hK K
                refine M.takeD (i := 22) (v := .bool true) 76 rfl rfl (by kernel_rfl) (by kernel_rfl) (by kernel_rfl) (fun _ _ _ h => h) (.inl ⟨by kernel_rfl, fun w' => by go_simp⟩) ?_
                refine M.takeD (i := 23) (v := .bool true) 77 rfl rfl (by kernel_rfl) (by kernel_rfl) (by kernel_rfl) (fun _ _ _ h => h) (.inl ⟨by kernel_rfl, fun w' => by go_simp⟩) ?_
                refine wpAny_done (by kernel_rfl) ?_ _
                try go_simp
                clear x0 x1 x2 y0 y1 y2
                go_wp2
                go_ret
                exact ⟨false, rfl, ⟨fun h => (by cases h), fun h => absurd h HX.out⟩, HBq.out.drew⟩
              · go_simp
                refine hK _ _ ?_
                clear hK K
                refine wpAny_ready (rs := [16]) (by kernel_rfl) (by simp) ?_
                refine AllReady.cons rfl (fun K hK => ?_) AllReady.nil
                go_simp
                refine hK _ _ ?_
                clear hK K
                refine M.takeD (i := 22) (v := .bool true) 76 rfl rfl (by kernel_rfl) (by kernel_rfl) (by kernel_rfl) (fun _ _ _ h => h) (.inl ⟨by kernel_rfl, fun w' => by go_simp⟩) ?_
                refine M.takeD (i := 23) (v := .bool true) 77 rfl rfl (by kernel_rfl) (by kernel_rfl) (by kernel_rfl) (fun _ _ _ h => h) (.inl ⟨by kernel_rfl, fun w' => by go_simp⟩) ?_
                refine wpAny_done (by kernel_rfl) ?_ _
                try go_simp
                clear x0 x1 x2 y0 y1 y2
                go_wp2
                go_ret
                exact ⟨false, rfl, ⟨fun h => (by cases h), fun h => absurd h HX.out⟩, HBq.out.drew⟩
    obtain ⟨j, hj0⟩ : ∃ j, k = j + 1 := ⟨k - 1, by omega⟩
    have HJ := M.hl hj0
    have hjn : j < n := by omega
    obtain ⟨b2, off2, g, e2, hg2, ⟨e0, -⟩, -⟩ := (HF.out.below HBr.out).at hjn
    cases e2
    have HGJ := M.hl hg2
    have KE := M.hl e0
    have hj : (k : Int) - 1 = (j : Int) := by omega
    have hjl : (j : Int) < (n : Int) := by omega
    have d0 : decide (0 < k) = true := decide_eq_true h0
    clear hg2 hj0 hjn h0
    by_cases hle : d.id ≤ g.id
    · have HX : Hid (¬ C) := HX0.out k d HFK.out (fun hc => by have := hc.2.1 j g HJ.out HGJ.out; omega)
      have d2 : decide (d.id ≤ g.id) = true := decide_eq_true hle
      clear hle
      have q0 := M.Wd.cell c0; have q1 := M.Wd.cell c1; have q2 := M.Wd.cell c2; have q3 := M.Wd.cell c3; have q4 := M.Wd.cell c4; have q5 := M.Wd.cell c5; have q6 := M.Wd.cell c6; have q7 := M.Wd.cell c7; have q8 := M.Wd.cell c8; have qe := M.Wd.cell e0
      go_wp2_with fail
      refine M.wp_region_wd (by kernel_rfl) (by kernel_rfl) (fun _ => ?_)
      repeat (first | go_big_quiet_skip | (go_big_quiet_want; go_big_quiet_op; first | go_big_quiet_on | (apply Exists.intro; refine ⟨fun x => ?_, ?_⟩; exact M.Wd.call x (CR.out x.val x.bel); go_big_quiet_on)))
      refine wpQuiet_nil ?_
      intro w5 hw'
      have B5 : Hid (Below w.heap.size w w5) := by obtain ⟨x, rfl⟩ := hw'; exact HBr.out.trans (x.bel.mono HBr.out.size)
      clear hw' q0 q1 q2 q3 q4 q5 q6 q7 q8
      go_wp2
      go_ret
      exact ⟨false, rfl, ⟨fun h => (by cases h), fun h => absurd h HX.out⟩, B5.out⟩
    have HID : Hid (∀ j g, k = j + 1 → ds[j]? = some g → g.id < d.id) := fun i x hi hx => by
      have : i = j := by have := HJ.out; omega
      subst this
      rw [HGJ.out] at hx
      obtain rfl := Option.some.inj hx
      omega
    have d2 : decide (d.id ≤ g.id) = false := decide_eq_false hle
    have hjw : IntKind.i64.wrap (j : Int) = (j : Int) := by rw [IntKind.wrap_i64]; omega
    clear hle
    go_wp2_with fail
    refine wp_region_any (by kernel_rfl) ?_
    change wpAny _ _ _ _ _ _ _ (World.drew _)
    refine M.takeD (i := 0) (v := .slice (some ⟨b, off, none⟩) n c) 14 rfl rfl (by kernel_rfl) (by kernel_rfl) (by kernel_rfl) (fun _ _ _ h => h) (.inl ⟨by kernel_rfl, fun w' => by go_simp⟩) ?_
    refine M.takeD (i := 1) (v := .int .i64 (k : Int)) 15 rfl rfl (by kernel_rfl) (by kernel_rfl) (by kernel_rfl) (fun _ _ _ h => h) (.inl ⟨by kernel_rfl, fun w' => by go_simp⟩) ?_
    refine M.takeD (i := 2) (v := .pointer (some ⟨b, off + k * 9, none⟩)) 16 rfl rfl (by kernel_rfl) (by kernel_rfl) (by kernel_rfl) (fun _ _ _ h => h) (.inl ⟨by kernel_rfl, fun w' => by go_simp⟩) ?_
    refine wpAny_ready (rs := [3]) (by kernel_rfl) (by simp) ?_
    refine AllReady.cons rfl (fun K hK => ?_) AllReady.nil
    go_simp
    refine hK _ _ ?_
    clear hK K
    refine wpAny_ready (rs := [4]) (by kernel_rfl) (by simp) ?_
    refine AllReady.cons rfl (fun K hK => ?_) AllReady.nil
    refine M.stepCallB 18 rfl (by kernel_rfl) 24 (.tmp 17) 36 rfl (.agg #[.int .i64 d.id, .string d.host, .int .i64 d.run, .int .i64 d.lev, .int .i64 d.base, .int .i64 d.day, .int .i64 d.many, .int .i64 d.crc, .slice pa pn pc]) (by simp [Act.eval]) (.bool true) (CR.out _ (Below.refl _ _).drew) (by kernel_rfl) ?_
    intro w5 hb5
    have V5 := hb5.block b HBLK.out
    have A5 := M.hl (M.sl (show Below wr.heap.size wr wr.drew from (Below.refl _ _).drew) hb5)
    have B5 := M.hl (M.sl (show Below w.heap.size w wr.drew from HBr.out.drew) hb5)
    have c0 : w5.cell? ⟨b, off + k * 9, none⟩ = some (.int .i64 d.id) := (World.cell?_of_block (a := ⟨b, off + k * 9, none⟩) V5).trans K0.out
    have c1 : w5.cell? ⟨b, off + k * 9 + 1, none⟩ = some (.string d.host) := (World.cell?_of_block (a := ⟨b, off + k * 9 + 1, none⟩) V5).trans K1.out
    have c2 : w5.cell? ⟨b, off + k * 9 + 2, none⟩ = some (.int .i64 d.run) := (World.cell?_of_block (a := ⟨b, off + k * 9 + 2, none⟩) V5).trans K2.out
    have c3 : w5.cell? ⟨b, off + k * 9 + 3, none⟩ = some (.int .i64 d.lev) := (World.cell?_of_block (a := ⟨b, off + k * 9 + 3, none⟩) V5).trans K3.out
    have c4 : w5.cell? ⟨b, off + k * 9 + 4, none⟩ = some (.int .i64 d.base) := (World.cell?_of_block (a := ⟨b, off + k * 9 + 4, none⟩) V5).trans K4.out
    have c5 : w5.cell? ⟨b, off + k * 9 + 5, none⟩ = some (.int .i64 d.day) := (World.cell?_of_block (a := ⟨b, off + k * 9 + 5, none⟩) V5).trans K5.out
    have c6 : w5.cell? ⟨b, off + k * 9 + 6, none⟩ = some (.int .i64 d.many) := (World.cell?_of_block (a := ⟨b, off + k * 9 + 6, none⟩) V5).trans K6.out
    have c7 : w5.cell? ⟨b, off + k * 9 + 7, none⟩ = some (.int .i64 d.crc) := (World.cell?_of_block (a := ⟨b, off + k * 9 + 7, none⟩) V5).trans K7.out
    have c8 : w5.cell? ⟨b, off + k * 9 + 8, none⟩ = some (.slice pa pn pc) := (World.cell?_of_block (a := ⟨b, off + k * 9 + 8, none⟩) V5).trans K8.out
    have e0 : w5.cell? ⟨b, off + j * 9, none⟩ = some (.int .i64 g.id) := (World.cell?_of_block (a := ⟨b, off + j * 9, none⟩) V5).trans KE.out
    clear V5 hb5
    try go_simp
    refine hK _ _ ?_
    clear hK K
    refine M.takeD (i := 5) (v := .bool false) 19 rfl rfl (by kernel_rfl) (by kernel_rfl) (by kernel_rfl) (fun _ _ _ h => h) (.inl ⟨by kernel_rfl, fun w' => by go_simp⟩) ?_
    refine M.takeD (i := 6) (v := .bool false) 20 rfl rfl (by kernel_rfl) (by kernel_rfl) (by kernel_rfl) (fun _ _ _ h => h) (.inl ⟨by kernel_rfl, fun w' => by go_simp⟩) ?_
    refine M.takeD (i := 7) (v := .int .i64 (k : Int)) 21 rfl rfl (by kernel_rfl) (by kernel_rfl) (by kernel_rfl) (fun _ _ _ h => h) (.inl ⟨by kernel_rfl, fun w' => by go_simp⟩) ?_
    refine M.takeD (i := 8) (v := .bool true) 22 rfl rfl (by kernel_rfl) (by kernel_rfl) (by kernel_rfl) (fun _ _ _ h => h) (.inl ⟨by kernel_rfl, fun w' => by go_simp⟩) ?_
    refine M.takeD (i := 9) (v := .bool true) 23 rfl rfl (by kernel_rfl) (by kernel_rfl) (by kernel_rfl) (fun _ _ _ h => h) (.inl ⟨by kernel_rfl, fun w' => by go_simp⟩) ?_
    refine M.takeD (i := 10) (v := .slice (some ⟨b, off, none⟩) n c) 24 rfl rfl (by kernel_rfl) (by kernel_rfl) (by kernel_rfl) (fun _ _ _ h => h) (.inl ⟨by kernel_rfl, fun w' => by go_simp⟩) ?_
    refine M.takeD (i := 11) (v := .int .i64 (k : Int)) 25 rfl rfl (by kernel_rfl) (by kernel_rfl) (by kernel_rfl) (fun _ _ _ h => h) (.inl ⟨by kernel_rfl, fun w' => by go_simp⟩) ?_
    refine M.takeD (i := 12) (v := .int .i64 (j : Int)) 26 rfl rfl (by kernel_rfl) (by kernel_rfl) (by kernel_rfl) (fun _ _ _ h => h) (.inl ⟨by kernel_rfl, fun w' => by go_simp⟩) ?_
    refine M.takeD (i := 13) (v := .pointer (some ⟨b, off + j * 9, none⟩)) 27 rfl rfl (by kernel_rfl) (by kernel_rfl) (by kernel_rfl) (fun _ _ _ h => h) (.inl ⟨by kernel_rfl, fun w' => by go_simp⟩) ?_
    refine M.takeD (i := 14) (v := .pointer (some ⟨b, off + j * 9, none⟩)) 28 rfl rfl (by kernel_rfl) (by kernel_rfl) (by kernel_rfl) (fun _ _ _ h => h) (.inl ⟨by kernel_rfl, fun w' => by go_simp⟩) ?_
    refine M.takeD (i := 16) (v := .slice (some ⟨b, off, none⟩) n c) 30 rfl rfl (by kernel_rfl) (by kernel_rfl) (by kernel_rfl) (fun _ _ _ h => h) (.inl ⟨by kernel_rfl, fun w' => by go_simp⟩) ?_
    refine M.takeD (i := 17) (v := .int .i64 (k : Int)) 31 rfl rfl (by kernel_rfl) (by kernel_rfl) (by kernel_rfl) (fun _ _ _ h => h) (.inl ⟨by kernel_rfl, fun w' => by go_simp⟩) ?_
    refine M.takeD (i := 18) (v := .pointer (some ⟨b, off + k * 9, none⟩)) 32 rfl rfl (by kernel_rfl) (by kernel_rfl) (by kernel_rfl) (fun _ _ _ h => h) (.inl ⟨by kernel_rfl, fun w' => by go_simp⟩) ?_
    refine M.takeD (i := 19) (v := .pointer (some ⟨b, off + k * 9, none⟩)) 33 rfl rfl (by kernel_rfl) (by kernel_rfl) (by kernel_rfl) (fun _ _ _ h => h) (.inl ⟨by kernel_rfl, fun w' => by go_simp⟩) ?_
    refine wpAny_ready (rs := [15, 20]) (by kernel_rfl) (by simp) ?_
    refine AllReady.cons rfl (fun K hK => ?_) (AllReady.cons rfl (fun K hK => ?_) AllReady.nil)
    · go_simp
      refine hK _ _ ?_
      clear hK K
      refine wpAny_ready (rs := [20]) (by kernel_rfl) (by simp) ?_
      refine AllReady.cons rfl (fun K hK => ?_) AllReady.nil
      go_simp
      refine hK _ _ ?_
      clear hK K
      refine M.takeD (i := 21) (v := .bool false) 35 rfl rfl (by kernel_rfl) (by kernel_rfl) (by kernel_rfl) (fun _ _ _ h => h) (.inl ⟨by kernel_rfl, fun w' => by go_simp⟩) ?_
      refine M.takeD (i := 22) (v := .bool false) 36 rfl rfl (by kernel_rfl) (by kernel_rfl) (by kernel_rfl) (fun _ _ _ h => h) (.inl ⟨by kernel_rfl, fun w' => by go_simp⟩) ?_
      refine M.takeD (i := 23) (v := .bool false) 37 rfl rfl (by kernel_rfl) (by kernel_rfl) (by kernel_rfl) (fun _ _ _ h => h) (.inl ⟨by kernel_rfl, fun w' => by go_simp⟩) ?_
      refine M.takeD (i := 24) (v := .bool false) 38 rfl rfl (by kernel_rfl) (by kernel_rfl) (by kernel_rfl) (fun _ _ _ h => h) (.inl ⟨by kernel_rfl, fun w' => by go_simp⟩) ?_
      refine M.takeD (i := 25) (v := .slice (some ⟨b, off, none⟩) n c) 39 rfl rfl (by kernel_rfl) (by kernel_rfl) (by kernel_rfl) (fun _ _ _ h => h) (.inl ⟨by kernel_rfl, fun w' => by go_simp⟩) ?_
      refine M.takeD (i := 26) (v := .slice (some ⟨b, off, none⟩) n c) 40 rfl rfl (by kernel_rfl) (by kernel_rfl) (by kernel_rfl) (fun _ _ _ h => h) (.inl ⟨by kernel_rfl, fun w' => by go_simp⟩) ?_
      refine M.takeD (i := 27) (v := .int .i64 (k : Int)) 41 rfl rfl (by kernel_rfl) (by kernel_rfl) (by kernel_rfl) (fun _ _ _ h => h) (.inl ⟨by kernel_rfl, fun w' => by go_simp⟩) ?_
      refine M.takeD (i := 28) (v := .pointer (some ⟨b, off + k * 9, none⟩)) 42 rfl rfl (by kernel_rfl) (by kernel_rfl) (by kernel_rfl) (fun _ _ _ h => h) (.inl ⟨by kernel_rfl, fun w' => by go_simp⟩) ?_
      refine M.takeD (i := 29) (v := .pointer (some ⟨b, off + k * 9 + 1, none⟩)) 43 rfl rfl (by kernel_rfl) (by kernel_rfl) (by kernel_rfl) (fun _ _ _ h => h) (.inl ⟨by kernel_rfl, fun w' => by go_simp⟩) ?_
      refine wpAny_ready (rs := [30]) (by kernel_rfl) (by simp) ?_
      refine AllReady.cons rfl (fun K hK => ?_) AllReady.nil
      go_simp
      refine hK _ _ ?_
      clear hK K
      refine wpAny_ready (rs := [31]) (by kernel_rfl) (by simp) ?_
      refine AllReady.cons rfl (fun K hK => ?_) AllReady.nil
      refine M.stepCallE2 45 rfl (by kernel_rfl) 26 (.tmp 39) (.tmp 44) 25 9 rfl (.slice (some ⟨b, off, none⟩) n c) (.string d.host) (by simp [Act.eval]) (by simp [Act.eval]) _ (CM.out _ A5.out) (by kernel_rfl) ?_
      rintro v6 w6 ⟨hO6, hb6⟩
      obtain ⟨a6, c6, rfl, hM6⟩ := hO6.mks
      have M6 := M.hl hM6
      have B6 := M.hl (M.sl B5.out hb6)
      clear hO6 hb6 hM6
      try go_simp
      refine hK _ _ ?_
      clear hK K
      refine wpAny_ready (rs := [32]) (by kernel_rfl) (by simp) ?_
      refine AllReady.cons rfl (fun K hK => ?_) AllReady.nil
      refine M.stepCallE1 46 rfl (by kernel_rfl) 25 (.tmp 45) 50 rfl (.slice a6 (M.marksOf ds d.host).length c6) (by simp [Act.eval]) _ (M.marksRB M6.out) (by kernel_rfl) ?_
      rintro v7 w7 ⟨v, rfl, hv7, hb7⟩
      have B7 := M.hl (M.sl B6.out hb7)
      have HV7 := M.hl hv7
      clear hv7 hb7
      try go_simp
      refine hK _ _ ?_
      clear hK K
      refine M.takeD (i := 33) (v := .bool (!v)) 47 rfl rfl (by kernel_rfl) (by kernel_rfl) (by kernel_rfl) (fun _ _ _ h => h) (.inl ⟨by kernel_rfl, fun w' => by go_simp⟩) ?_
      refine M.takeD (i := 34) (v := .bool (!v)) 48 rfl rfl (by kernel_rfl) (by kernel_rfl) (by kernel_rfl) (fun _ _ _ h => h) (.inl ⟨by kernel_rfl, fun w' => by go_simp⟩) ?_
      refine wpAny_done (by kernel_rfl) ?_ _
      try go_simp
      cases v with
      | false =>
        have HX : Hid (¬ C) := HX0.out k d HFK.out (fun hc => absurd (HV7.out.2 hc.2.2.1) (by simp))
        go_wp2
        go_ret
        exact ⟨false, rfl, ⟨fun h => (by cases h), fun h => absurd h HX.out⟩, B7.out⟩
      | true =>
        have HMR : Hid (M.MarksR (M.marksOf ds d.host)) := HV7.out.1 rfl
        clear HV7
        clear CR CM
        simp only [Bool.not_true]
        go_wp2
        go_loopw [4] (fun i wr => ∃ q : Nat, i = .int .i64 q ∧ q ≤ k ∧ Hid (∀ p g, p < q → ds[p]? = some g → g.host = d.host → g.run < d.run) ∧ Hid (Below w.heap.size w wr)) (fun i _ => k - (intOf i).toNat)
        case atStart => exact ⟨0, rfl, Nat.zero_le _, (fun p g hp => absurd hp (Nat.not_lt_zero _)), B7⟩
        case round =>
          obtain ⟨q, rfl, hq, HQ, HBq⟩ := hrel
          by_cases hqk : q < k
          case neg =>
            have HA2 := M.hl (HNX.out HID.out HMR.out (fun p g hp hg he => HQ.out p g (by omega) hg he))
            go_wp2
            go_roundw
            case rel => exact ⟨k + 1, by go_num, by omega, HA2, HBq⟩
            case measure => simp [intOf]; omega
          obtain ⟨b1, off1, d1, e1, hf1, ⟨x0, x1, x2, -⟩, -⟩ := (HF.out.below HBq.out).at hlt
          obtain ⟨b2, off2, g, e2, hg2, ⟨y0, y1, y2, -⟩, -⟩ := (HF.out.below HBq.out).at (k := q) (by omega)
          cases e1
          cases e2
          rw [HFK.out] at hf1
          obtain rfl := Option.some.inj hf1
          have HG2 := M.hl hg2
          have hql : (q : Int) < (n : Int) := by omega
          clear hf1 hg2
          by_cases hh : g.host = d.host
          case neg =>
            have e0 : (g.host.toList == d.host.toList) = false := by
              cases e : (g.host.toList == d.host.toList)
              · rfl
              · exact absurd (M.sameT.1 e) hh
            have HQ2 : Hid (∀ p g, p < q + 1 → ds[p]? = some g → g.host = d.host → g.run < d.run) := fun p x hp hx he => by
              by_cases e : p = q
              · subst e
                rw [HG2.out] at hx
                obtain rfl := Option.some.inj hx
                exact absurd he hh
              · exact HQ.out p x (by omega) hx he
            clear hh
            go_wp2_with fail
            refine wp_region_any (by kernel_rfl) ?_
            change wpAny _ _ _ _ _ _ _ (World.drew _)
            refine M.takeD (i := 0) (v := .slice (some ⟨b, off, none⟩) n c) 54 rfl rfl (by kernel_rfl) (by kernel_rfl) (by kernel_rfl) (fun _ _ _ h => h) (.inl ⟨by kernel_rfl, fun w' => by go_simp⟩) ?_
            refine M.takeD (i := 1) (v := .int .i64 (q : Int)) 55 rfl rfl (by kernel_rfl) (by kernel_rfl) (by kernel_rfl) (fun _ _ _ h => h) (.inl ⟨by kernel_rfl, fun w' => by go_simp⟩) ?_
            refine M.takeD (i := 2) (v := .pointer (some ⟨b, off + q * 9, none⟩)) 56 rfl rfl (by kernel_rfl) (by kernel_rfl) (by kernel_rfl) (fun _ _ _ h => h) (.inl ⟨by kernel_rfl, fun w' => by go_simp⟩) ?_
            refine M.takeD (i := 3) (v := .pointer (some ⟨b, off + q * 9 + 1, none⟩)) 57 rfl rfl (by kernel_rfl) (by kernel_rfl) (by kernel_rfl) (fun _ _ _ h => h) (.inl ⟨by kernel_rfl, fun w' => by go_simp⟩) ?_
            refine M.takeD (i := 5) (v := .slice (some ⟨b, off, none⟩) n c) 59 rfl rfl (by kernel_rfl) (by kernel_rfl) (by kernel_rfl) (fun _ _ _ h => h) (.inl ⟨by kernel_rfl, fun w' => by go_simp⟩) ?_
            refine M.takeD (i := 6) (v := .int .i64 (k : Int)) 60 rfl rfl (by kernel_rfl) (by kernel_rfl) (by kernel_rfl) (fun _ _ _ h => h) (.inl ⟨by kernel_rfl, fun w' => by go_simp⟩) ?_
            refine M.takeD (i := 7) (v := .pointer (some ⟨b, off + k * 9, none⟩)) 61 rfl rfl (by kernel_rfl) (by kernel_rfl) (by kernel_rfl) (fun _ _ _ h => h) (.inl ⟨by kernel_rfl, fun w' => by go_simp⟩) ?_
            refine M.takeD (i := 8) (v := .pointer (some ⟨b, off + k * 9 + 1, none⟩)) 62 rfl rfl (by kernel_rfl) (by kernel_rfl) (by kernel_rfl) (fun _ _ _ h => h) (.inl ⟨by kernel_rfl, fun w' => by go_simp⟩) ?_
            refine wpAny_ready (rs := [4, 9]) (by kernel_rfl) (by simp) ?_
            refine AllReady.cons rfl (fun K hK => ?_) (AllReady.cons rfl (fun K hK => ?_) AllReady.nil)
            · go_simp
              refine hK _ _ ?_
              clear hK K
              refine wpAny_ready (rs := [9]) (by kernel_rfl) (by simp) ?_
              refine AllReady.cons rfl (fun K hK => ?_) AllReady.nil
              go_simp
              refine hK _ _ ?_
              clear hK K
              refine M.takeD (i := 10) (v := .bool false) 64 rfl rfl (by kernel_rfl) (by kernel_rfl) (by kernel_rfl) (fun _ _ _ h => h) (.inl ⟨by kernel_rfl, fun w' => by go_simp⟩) ?_
              refine M.takeD (i := 11) (v := .bool false) 65 rfl rfl (by kernel_rfl) (by kernel_rfl) (by kernel_rfl) (fun _ _ _ h => h) (.inl ⟨by kernel_rfl, fun w' => by go_simp⟩) ?_
              refine M.takeD (i := 12) (v := undef) 66 rfl rfl (by kernel_rfl) (by kernel_rfl) (by kernel_rfl) (fun _ _ _ h => h) (.inr ⟨by kernel_rfl, rfl⟩) ?_
              refine M.takeD (i := 13) (v := undef) 67 rfl rfl (by kernel_rfl) (by kernel_rfl) (by kernel_rfl) (fun _ _ _ h => h) (.inr ⟨by kernel_rfl, rfl⟩) ?_
              refine M.takeD (i := 14) (v := undef) 68 rfl rfl (by kernel_rfl) (by kernel_rfl) (by kernel_rfl) (fun _ _ _ h => h) (.inr ⟨by kernel_rfl, rfl⟩) ?_
              refine M.takeD (i := 15) (v := undef) 69 rfl rfl (by kernel_rfl) (by kernel_rfl) (by kernel_rfl) (fun _ _ _ h => h) (.inr ⟨by kernel_rfl, rfl⟩) ?_
              refine M.takeD (i := 16) (v := undef) 70 rfl rfl (by kernel_rfl) (by kernel_rfl) (by kernel_rfl) (fun _ _ _ h => h) (.inr ⟨by kernel_rfl, rfl⟩) ?_
              refine M.takeD (i := 17) (v := undef) 71 rfl rfl (by kernel_rfl) (by kernel_rfl) (by kernel_rfl) (fun _ _ _ h => h) (.inr ⟨by kernel_rfl, rfl⟩) ?_
              refine M.takeD (i := 18) (v := undef) 72 rfl rfl (by kernel_rfl) (by kernel_rfl) (by kernel_rfl) (fun _ _ _ h => h) (.inr ⟨by kernel_rfl, rfl⟩) ?_
              refine M.takeD (i := 19) (v := undef) 73 rfl rfl (by kernel_rfl) (by kernel_rfl) (by kernel_rfl) (fun _ _ _ h => h) (.inr ⟨by kernel_rfl, rfl⟩) ?_
              refine M.takeD (i := 20) (v := undef) 74 rfl rfl (by kernel_rfl) (by kernel_rfl) (by kernel_rfl) (fun _ _ _ h => h) (.inr ⟨by kernel_rfl, rfl⟩) ?_
              refine M.takeD (i := 21) (v := undef) 75 rfl rfl (by kernel_rfl) (by kernel_rfl) (by kernel_rfl) (fun _ _ _ h => h) (.inr ⟨by kernel_rfl, rfl⟩) ?_
              refine M.takeD (i := 22) (v := undef) 76 rfl rfl (by kernel_rfl) (by kernel_rfl) (by kernel_rfl) (fun _ _ _ h => h) (.inr ⟨by kernel_rfl, rfl⟩) ?_
              refine M.takeD (i := 23) (v := .bool false) 77 rfl rfl (by kernel_rfl) (by kernel_rfl) (by kernel_rfl) (fun _ _ _ h => h) (.inl ⟨by kernel_rfl, fun w' => by go_simp⟩) ?_
              refine wpAny_done (by kernel_rfl) ?_ _
              try go_simp
              clear x0 x1 x2 y0 y1 y2
              go_wp2
              go_roundw
              case rel => exact ⟨q + 1, by go_num, by omega, HQ2, HBq.out.drew⟩
              case measure => simp [intOf]; omega
            · go_simp
              refine hK _ _ ?_
              clear hK K
              refine wpAny_ready (rs := [4]) (by kernel_rfl) (by simp) ?_
              refine AllReady.cons rfl (fun K hK => ?_) AllReady.nil
              go_simp
              refine hK _ _ ?_
              clear hK K
              refine M.takeD (i := 10) (v := .bool false) 64 rfl rfl (by kernel_rfl) (by kernel_rfl) (by kernel_rfl) (fun _ _ _ h => h) (.inl ⟨by kernel_rfl, fun w' => by go_simp⟩) ?_
              refine M.takeD (i := 11) (v := .bool false) 65 rfl rfl (by kernel_rfl) (by kernel_rfl) (by kernel_rfl) (fun _ _ _ h => h) (.inl ⟨by kernel_rfl, fun w' => by go_simp⟩) ?_
              refine M.takeD (i := 12) (v := undef) 66 rfl rfl (by kernel_rfl) (by kernel_rfl) (by kernel_rfl) (fun _ _ _ h => h) (.inr ⟨by kernel_rfl, rfl⟩) ?_
              refine M.takeD (i := 13) (v := undef) 67 rfl rfl (by kernel_rfl) (by kernel_rfl) (by kernel_rfl) (fun _ _ _ h => h) (.inr ⟨by kernel_rfl, rfl⟩) ?_
              refine M.takeD (i := 14) (v := undef) 68 rfl rfl (by kernel_rfl) (by kernel_rfl) (by kernel_rfl) (fun _ _ _ h => h) (.inr ⟨by kernel_rfl, rfl⟩) ?_
              refine M.takeD (i := 15) (v := undef) 69 rfl rfl (by kernel_rfl) (by kernel_rfl) (by kernel_rfl) (fun _ _ _ h => h) (.inr ⟨by kernel_rfl, rfl⟩) ?_
              refine M.takeD (i := 16) (v := undef) 70 rfl rfl (by kernel_rfl) (by kernel_rfl) (by kernel_rfl) (fun _ _ _ h => h) (.inr ⟨by kernel_rfl, rfl⟩) ?_
              refine M.takeD (i := 17) (v := undef) 71 rfl rfl (by kernel_rfl) (by kernel_rfl) (by kernel_rfl) (fun _ _ _ h => h) (.inr ⟨by kernel_rfl, rfl⟩) ?_
              refine M.takeD (i := 18) (v := undef) 72 rfl rfl (by kernel_rfl) (by kernel_rfl) (by kernel_rfl) (fun _ _ _ h => h) (.inr ⟨by kernel_rfl, rfl⟩) ?_
              refine M.takeD (i := 19) (v := undef) 73 rfl rfl (by kernel_rfl) (by kernel_rfl) (by kernel_rfl) (fun _ _ _ h => h) (.inr ⟨by kernel_rfl, rfl⟩) ?_
              refine M.takeD (i := 20) (v := undef) 74 rfl rfl (by kernel_rfl) (by kernel_rfl) (by kernel_rfl) (fun _ _ _ h => h) (.inr ⟨by kernel_rfl, rfl⟩) ?_
              refine M.takeD (i := 21) (v := undef) 75 rfl rfl (by kernel_rfl) (by kernel_rfl) (by kernel_rfl) (fun _ _ _ h => h) (.inr ⟨by kernel_rfl, rfl⟩) ?_
              refine M.takeD (i := 22) (v := undef) 76 rfl rfl (by kernel_rfl) (by kernel_rfl) (by kernel_rfl) (fun _ _ _ h => h) (.inr ⟨by kernel_rfl, rfl⟩) ?_
              refine M.takeD (i := 23) (v := .bool false) 77 rfl rfl (by kernel_rfl) (by kernel_rfl) (by kernel_rfl) (fun _ _ _ h => h) (.inl ⟨by kernel_rfl, fun w' => by go_simp⟩) ?_
              refine wpAny_done (by kernel_rfl) ?_ _
              try go_simp
              clear x0 x1 x2 y0 y1 y2
              go_wp2
              go_roundw
              case rel => exact ⟨q + 1, by go_num, by omega, HQ2, HBq.out.drew⟩
              case measure => simp [intOf]; omega
          have e0 : (g.host.toList == d.host.toList) = true := by rw [hh]; simp
          have HH := M.hl hh
          clear hh
          by_cases hle : d.run ≤ g.run
          case neg =>
            have e3 : decide (d.run ≤ g.run) = false := decide_eq_false hle
            have HQ2 : Hid (∀ p g, p < q + 1 → ds[p]? = some g → g.host = d.host → g.run < d.run) := fun p x hp hx he => by
              by_cases e : p = q
              · subst e
                rw [HG2.out] at hx
                obtain rfl := Option.some.inj hx
                omega
              · exact HQ.out p x (by omega) hx he
            clear hle
            go_wp2_with fail
            refine wp_region_any (by kernel_rfl) ?_
            change wpAny _ _ _ _ _ _ _ (World.drew _)
            refine M.takeD (i := 0) (v := .slice (some ⟨b, off, none⟩) n c) 54 rfl rfl (by kernel_rfl) (by kernel_rfl) (by kernel_rfl) (fun _ _ _ h => h) (.inl ⟨by kernel_rfl, fun w' => by go_simp⟩) ?_
            refine M.takeD (i := 1) (v := .int .i64 (q : Int)) 55 rfl rfl (by kernel_rfl) (by kernel_rfl) (by kernel_rfl) (fun _ _ _ h => h) (.inl ⟨by kernel_rfl, fun w' => by go_simp⟩) ?_
            refine M.takeD (i := 2) (v := .pointer (some ⟨b, off + q * 9, none⟩)) 56 rfl rfl (by kernel_rfl) (by kernel_rfl) (by kernel_rfl) (fun _ _ _ h => h) (.inl ⟨by kernel_rfl, fun w' => by go_simp⟩) ?_
            refine M.takeD (i := 3) (v := .pointer (some ⟨b, off + q * 9 + 1, none⟩)) 57 rfl rfl (by kernel_rfl) (by kernel_rfl) (by kernel_rfl) (fun _ _ _ h => h) (.inl ⟨by kernel_rfl, fun w' => by go_simp⟩) ?_
            refine M.takeD (i := 5) (v := .slice (some ⟨b, off, none⟩) n c) 59 rfl rfl (by kernel_rfl) (by kernel_rfl) (by kernel_rfl) (fun _ _ _ h => h) (.inl ⟨by kernel_rfl, fun w' => by go_simp⟩) ?_
            refine M.takeD (i := 6) (v := .int .i64 (k : Int)) 60 rfl rfl (by kernel_rfl) (by kernel_rfl) (by kernel_rfl) (fun _ _ _ h => h) (.inl ⟨by kernel_rfl, fun w' => by go_simp⟩) ?_
            refine M.takeD (i := 7) (v := .pointer (some ⟨b, off + k * 9, none⟩)) 61 rfl rfl (by kernel_rfl) (by kernel_rfl) (by kernel_rfl) (fun _ _ _ h => h) (.inl ⟨by kernel_rfl, fun w' => by go_simp⟩) ?_
            refine M.takeD (i := 8) (v := .pointer (some ⟨b, off + k * 9 + 1, none⟩)) 62 rfl rfl (by kernel_rfl) (by kernel_rfl) (by kernel_rfl) (fun _ _ _ h => h) (.inl ⟨by kernel_rfl, fun w' => by go_simp⟩) ?_
            refine wpAny_ready (rs := [4, 9]) (by kernel_rfl) (by simp) ?_
            refine AllReady.cons rfl (fun K hK => ?_) (AllReady.cons rfl (fun K hK => ?_) AllReady.nil)
            · go_simp
              refine hK _ _ ?_
              clear hK K
              refine wpAny_ready (rs := [9]) (by kernel_rfl) (by simp) ?_
              refine AllReady.cons rfl (fun K hK => ?_) AllReady.nil
              go_simp
              refine hK _ _ ?_
              clear hK K
              refine M.takeD (i := 10) (v := .bool true) 64 rfl rfl (by kernel_rfl) (by kernel_rfl) (by kernel_rfl) (fun _ _ _ h => h) (.inl ⟨by kernel_rfl, fun w' => by go_simp⟩) ?_
              refine M.takeD (i := 11) (v := .bool true) 65 rfl rfl (by kernel_rfl) (by kernel_rfl) (by kernel_rfl) (fun _ _ _ h => h) (.inl ⟨by kernel_rfl, fun w' => by go_simp⟩) ?_
              refine M.takeD (i := 12) (v := .slice (some ⟨b, off, none⟩) n c) 66 rfl rfl (by kernel_rfl) (by kernel_rfl) (by kernel_rfl) (fun _ _ _ h => h) (.inl ⟨by kernel_rfl, fun w' => by go_simp⟩) ?_
              refine M.takeD (i := 13) (v := .int .i64 (q : Int)) 67 rfl rfl (by kernel_rfl) (by kernel_rfl) (by kernel_rfl) (fun _ _ _ h => h) (.inl ⟨by kernel_rfl, fun w' => by go_simp⟩) ?_
              refine M.takeD (i := 14) (v := .pointer (some ⟨b, off + q * 9, none⟩)) 68 rfl rfl (by kernel_rfl) (by kernel_rfl) (by kernel_rfl) (fun _ _ _ h => h) (.inl ⟨by kernel_rfl, fun w' => by go_simp⟩) ?_
              refine M.takeD (i := 15) (v := .pointer (some ⟨b, off + q * 9 + 2, none⟩)) 69 rfl rfl (by kernel_rfl) (by kernel_rfl) (by kernel_rfl) (fun _ _ _ h => h) (.inl ⟨by kernel_rfl, fun w' => by go_simp⟩) ?_
              refine M.takeD (i := 17) (v := .slice (some ⟨b, off, none⟩) n c) 71 rfl rfl (by kernel_rfl) (by kernel_rfl) (by kernel_rfl) (fun _ _ _ h => h) (.inl ⟨by kernel_rfl, fun w' => by go_simp⟩) ?_
              refine M.takeD (i := 18) (v := .int .i64 (k : Int)) 72 rfl rfl (by kernel_rfl) (by kernel_rfl) (by kernel_rfl) (fun _ _ _ h => h) (.inl ⟨by kernel_rfl, fun w' => by go_simp⟩) ?_
              refine M.takeD (i := 19) (v := .pointer (some ⟨b, off + k * 9, none⟩)) 73 rfl rfl (by kernel_rfl) (by kernel_rfl) (by kernel_rfl) (fun _ _ _ h => h) (.inl ⟨by kernel_rfl, fun w' => by go_simp⟩) ?_
              refine M.takeD (i := 20) (v := .pointer (some ⟨b, off + k * 9 + 2, none⟩)) 74 rfl rfl (by kernel_rfl) (by kernel_rfl) (by kernel_rfl) (fun _ _ _ h => h) (.inl ⟨by kernel_rfl, fun w' => by go_simp⟩) ?_
              refine wpAny_ready (rs := [16, 21]) (by kernel_rfl) (by simp) ?_
              refine AllReady.cons rfl (fun K hK => ?_) (AllReady.cons rfl (fun K hK => ?_) AllReady.nil)
              · go_simp
                refine hK _ _ ?_
                clear hK K
                refine wpAny_ready (rs := [21]) (by kernel_rfl) (by simp) ?_
                refine AllReady.cons rfl (fun K hK => ?_) AllReady.nil
                go_simp
                refine hK _ _ ?_
                clear hK K
                refine M.takeD (i := 22) (v := .bool false) 76 rfl rfl (by kernel_rfl) (by kernel_rfl) (by kernel_rfl) (fun _ _ _ h => h) (.inl ⟨by kernel_rfl, fun w' => by go_simp⟩) ?_
                refine M.takeD (i := 23) (v := .bool false) 77 rfl rfl (by kernel_rfl) (by kernel_rfl) (by kernel_rfl) (fun _ _ _ h => h) (.inl ⟨by kernel_rfl, fun w' => by go_simp⟩) ?_
                refine wpAny_done (by kernel_rfl) ?_ _
                try go_simp
                clear x0 x1 x2 y0 y1 y2
                go_wp2
                go_roundw
                case rel => exact ⟨q + 1, by go_num, by omega, HQ2, HBq.out.drew⟩
                case measure => simp [intOf]; omega
              · go_simp
                refine hK _ _ ?_
                clear hK K
                refine wpAny_ready (rs := [16]) (by kernel_rfl) (by simp) ?_
                refine AllReady.cons rfl (fun K hK => ?_) AllReady.nil
                go_simp
                refine hK _ _ ?_
                clear hK K
                refine M.takeD (i := 22) (v := .bool false) 76 rfl rfl (by kernel_rfl) (by kernel_rfl) (by kernel_rfl) (fun _ _ _ h => h) (.inl ⟨by kernel_rfl, fun w' => by go_simp⟩) ?_
                refine M.takeD (i := 23) (v := .bool false) 77 rfl rfl (by kernel_rfl) (by kernel_rfl) (by kernel_rfl) (fun _ _ _ h => h) (.inl ⟨by kernel_rfl, fun w' => by go_simp⟩) ?_
                refine wpAny_done (by kernel_rfl) ?_ _
                try go_simp
                clear x0 x1 x2 y0 y1 y2
                go_wp2
                go_roundw
                case rel => exact ⟨q + 1, by go_num, by omega, HQ2, HBq.out.drew⟩
                case measure => simp [intOf]; omega
            · go_simp
              refine hK _ _ ?_
              clear hK K
              refine wpAny_ready (rs := [4]) (by kernel_rfl) (by simp) ?_
              refine AllReady.cons rfl (fun K hK => ?_) AllReady.nil
              go_simp
              refine hK _ _ ?_
              clear hK K
              refine M.takeD (i := 10) (v := .bool true) 64 rfl rfl (by kernel_rfl) (by kernel_rfl) (by kernel_rfl) (fun _ _ _ h => h) (.inl ⟨by kernel_rfl, fun w' => by go_simp⟩) ?_
              refine M.takeD (i := 11) (v := .bool true) 65 rfl rfl (by kernel_rfl) (by kernel_rfl) (by kernel_rfl) (fun _ _ _ h => h) (.inl ⟨by kernel_rfl, fun w' => by go_simp⟩) ?_
              refine M.takeD (i := 12) (v := .slice (some ⟨b, off, none⟩) n c) 66 rfl rfl (by kernel_rfl) (by kernel_rfl) (by kernel_rfl) (fun _ _ _ h => h) (.inl ⟨by kernel_rfl, fun w' => by go_simp⟩) ?_
              refine M.takeD (i := 13) (v := .int .i64 (q : Int)) 67 rfl rfl (by kernel_rfl) (by kernel_rfl) (by kernel_rfl) (fun _ _ _ h => h) (.inl ⟨by kernel_rfl, fun w' => by go_simp⟩) ?_
              refine M.takeD (i := 14) (v := .pointer (some ⟨b, off + q * 9, none⟩)) 68 rfl rfl (by kernel_rfl) (by kernel_rfl) (by kernel_rfl) (fun _ _ _ h => h) (.inl ⟨by kernel_rfl, fun w' => by go_simp⟩) ?_
              refine M.takeD (i := 15) (v := .pointer (some ⟨b, off + q * 9 + 2, none⟩)) 69 rfl rfl (by kernel_rfl) (by kernel_rfl) (by kernel_rfl) (fun _ _ _ h => h) (.inl ⟨by kernel_rfl, fun w' => by go_simp⟩) ?_
              refine M.takeD (i := 17) (v := .slice (some ⟨b, off, none⟩) n c) 71 rfl rfl (by kernel_rfl) (by kernel_rfl) (by kernel_rfl) (fun _ _ _ h => h) (.inl ⟨by kernel_rfl, fun w' => by go_simp⟩) ?_
              refine M.takeD (i := 18) (v := .int .i64 (k : Int)) 72 rfl rfl (by kernel_rfl) (by kernel_rfl) (by kernel_rfl) (fun _ _ _ h => h) (.inl ⟨by kernel_rfl, fun w' => by go_simp⟩) ?_
              refine M.takeD (i := 19) (v := .pointer (some ⟨b, off + k * 9, none⟩)) 73 rfl rfl (by kernel_rfl) (by kernel_rfl) (by kernel_rfl) (fun _ _ _ h => h) (.inl ⟨by kernel_rfl, fun w' => by go_simp⟩) ?_
              refine M.takeD (i := 20) (v := .pointer (some ⟨b, off + k * 9 + 2, none⟩)) 74 rfl rfl (by kernel_rfl) (by kernel_rfl) (by kernel_rfl) (fun _ _ _ h => h) (.inl ⟨by kernel_rfl, fun w' => by go_simp⟩) ?_
              refine wpAny_ready (rs := [16, 21]) (by kernel_rfl) (by simp) ?_
              refine AllReady.cons rfl (fun K hK => ?_) (AllReady.cons rfl (fun K hK => ?_) AllReady.nil)
              · go_simp
                refine hK _ _ ?_
                clear hK K
                refine wpAny_ready (rs := [21]) (by kernel_rfl) (by simp) ?_
                refine AllReady.cons rfl (fun K hK => ?_) AllReady.nil
                go_simp
                refine hK _ _ ?_
                clear hK K
                refine M.takeD (i := 22) (v := .bool false) 76 rfl rfl (by kernel_rfl) (by kernel_rfl) (by kernel_rfl) (fun _ _ _ h => h) (.inl ⟨by kernel_rfl, fun w' => by go_simp⟩) ?_
                refine M.takeD (i := 23) (v := .bool false) 77 rfl rfl (by kernel_rfl) (by kernel_rfl) (by kernel_rfl) (fun _ _ _ h => h) (.inl ⟨by kernel_rfl, fun w' => by go_simp⟩) ?_
                refine wpAny_done (by kernel_rfl) ?_ _
                try go_simp
                clear x0 x1 x2 y0 y1 y2
                go_wp2
                go_roundw
                case rel => exact ⟨q + 1, by go_num, by omega, HQ2, HBq.out.drew⟩
                case measure => simp [intOf]; omega
              · go_simp
                refine hK _ _ ?_
                clear hK K
                refine wpAny_ready (rs := [16]) (by kernel_rfl) (by simp) ?_
                refine AllReady.cons rfl (fun K hK => ?_) AllReady.nil
                go_simp
                refine hK _ _ ?_
                clear hK K
                refine M.takeD (i := 22) (v := .bool false) 76 rfl rfl (by kernel_rfl) (by kernel_rfl) (by kernel_rfl) (fun _ _ _ h => h) (.inl ⟨by kernel_rfl, fun w' => by go_simp⟩) ?_
                refine M.takeD (i := 23) (v := .bool false) 77 rfl rfl (by kernel_rfl) (by kernel_rfl) (by kernel_rfl) (fun _ _ _ h => h) (.inl ⟨by kernel_rfl, fun w' => by go_simp⟩) ?_
                refine wpAny_done (by kernel_rfl) ?_ _
                try go_simp
                clear x0 x1 x2 y0 y1 y2
                go_wp2
                go_roundw
                case rel => exact ⟨q + 1, by go_num, by omega, HQ2, HBq.out.drew⟩
                case measure => simp [intOf]; omega
          have e3 : decide (d.run ≤ g.run) = true := decide_eq_true hle
          have HX : Hid (¬ C) := HX0.out k d HFK.out (fun hc => by have := hc.2.2.2 q g hqk HG2.out HH.out; omega)
          clear hle
          go_wp2_with fail
          refine wp_region_any (by kernel_rfl) ?_
          change wpAny _ _ _ _ _ _ _ (World.drew _)
          refine M.takeD (i := 0) (v := .slice (some ⟨b, off, none⟩) n c) 54 rfl rfl (by kernel_rfl) (by kernel_rfl) (by kernel_rfl) (fun _ _ _ h => h) (.inl ⟨by kernel_rfl, fun w' => by go_simp⟩) ?_
          refine M.takeD (i := 1) (v := .int .i64 (q : Int)) 55 rfl rfl (by kernel_rfl) (by kernel_rfl) (by kernel_rfl) (fun _ _ _ h => h) (.inl ⟨by kernel_rfl, fun w' => by go_simp⟩) ?_
          refine M.takeD (i := 2) (v := .pointer (some ⟨b, off + q * 9, none⟩)) 56 rfl rfl (by kernel_rfl) (by kernel_rfl) (by kernel_rfl) (fun _ _ _ h => h) (.inl ⟨by kernel_rfl, fun w' => by go_simp⟩) ?_
          refine M.takeD (i := 3) (v := .pointer (some ⟨b, off + q * 9 + 1, none⟩)) 57 rfl rfl (by kernel_rfl) (by kernel_rfl) (by kernel_rfl) (fun _ _ _ h => h) (.inl ⟨by kernel_rfl, fun w' => by go_simp⟩) ?_
          refine M.takeD (i := 5) (v := .slice (some ⟨b, off, none⟩) n c) 59 rfl rfl (by kernel_rfl) (by kernel_rfl) (by kernel_rfl) (fun _ _ _ h => h) (.inl ⟨by kernel_rfl, fun w' => by go_simp⟩) ?_
          refine M.takeD (i := 6) (v := .int .i64 (k : Int)) 60 rfl rfl (by kernel_rfl) (by kernel_rfl) (by kernel_rfl) (fun _ _ _ h => h) (.inl ⟨by kernel_rfl, fun w' => by go_simp⟩) ?_
          refine M.takeD (i := 7) (v := .pointer (some ⟨b, off + k * 9, none⟩)) 61 rfl rfl (by kernel_rfl) (by kernel_rfl) (by kernel_rfl) (fun _ _ _ h => h) (.inl ⟨by kernel_rfl, fun w' => by go_simp⟩) ?_
          refine M.takeD (i := 8) (v := .pointer (some ⟨b, off + k * 9 + 1, none⟩)) 62 rfl rfl (by kernel_rfl) (by kernel_rfl) (by kernel_rfl) (fun _ _ _ h => h) (.inl ⟨by kernel_rfl, fun w' => by go_simp⟩) ?_
          refine wpAny_ready (rs := [4, 9]) (by kernel_rfl) (by simp) ?_
          refine AllReady.cons rfl (fun K hK => ?_) (AllReady.cons rfl (fun K hK => ?_) AllReady.nil)
          · go_simp
            refine hK _ _ ?_
            clear hK K
            refine wpAny_ready (rs := [9]) (by kernel_rfl) (by simp) ?_
            refine AllReady.cons rfl (fun K hK => ?_) AllReady.nil
            go_simp
            refine hK _ _ ?_
            clear hK K
            refine M.takeD (i := 10) (v := .bool true) 64 rfl rfl (by kernel_rfl) (by kernel_rfl) (by kernel_rfl) (fun _ _ _ h => h) (.inl ⟨by kernel_rfl, fun w' => by go_simp⟩) ?_
            refine M.takeD (i := 11) (v := .bool true) 65 rfl rfl (by kernel_rfl) (by kernel_rfl) (by kernel_rfl) (fun _ _ _ h => h) (.inl ⟨by kernel_rfl, fun w' => by go_simp⟩) ?_
            refine M.takeD (i := 12) (v := .slice (some ⟨b, off, none⟩) n c) 66 rfl rfl (by kernel_rfl) (by kernel_rfl) (by kernel_rfl) (fun _ _ _ h => h) (.inl ⟨by kernel_rfl, fun w' => by go_simp⟩) ?_
            refine M.takeD (i := 13) (v := .int .i64 (q : Int)) 67 rfl rfl (by kernel_rfl) (by kernel_rfl) (by kernel_rfl) (fun _ _ _ h => h) (.inl ⟨by kernel_rfl, fun w' => by go_simp⟩) ?_
            refine M.takeD (i := 14) (v := .pointer (some ⟨b, off + q * 9, none⟩)) 68 rfl rfl (by kernel_rfl) (by kernel_rfl) (by kernel_rfl) (fun _ _ _ h => h) (.inl ⟨by kernel_rfl, fun w' => by go_simp⟩) ?_
            refine M.takeD (i := 15) (v := .pointer (some ⟨b, off + q * 9 + 2, none⟩)) 69 rfl rfl (by kernel_rfl) (by kernel_rfl) (by kernel_rfl) (fun _ _ _ h => h) (.inl ⟨by kernel_rfl, fun w' => by go_simp⟩) ?_
            refine M.takeD (i := 17) (v := .slice (some ⟨b, off, none⟩) n c) 71 rfl rfl (by kernel_rfl) (by kernel_rfl) (by kernel_rfl) (fun _ _ _ h => h) (.inl ⟨by kernel_rfl, fun w' => by go_simp⟩) ?_
            refine M.takeD (i := 18) (v := .int .i64 (k : Int)) 72 rfl rfl (by kernel_rfl) (by kernel_rfl) (by kernel_rfl) (fun _ _ _ h => h) (.inl ⟨by kernel_rfl, fun w' => by go_simp⟩) ?_
            refine M.takeD (i := 19) (v := .pointer (some ⟨b, off + k * 9, none⟩)) 73 rfl rfl (by kernel_rfl) (by kernel_rfl) (by kernel_rfl) (fun _ _ _ h => h) (.inl ⟨by kernel_rfl, fun w' => by go_simp⟩) ?_
            refine M.takeD (i := 20) (v := .pointer (some ⟨b, off + k * 9 + 2, none⟩)) 74 rfl rfl (by kernel_rfl) (by kernel_rfl) (by kernel_rfl) (fun _ _ _ h => h) (.inl ⟨by kernel_rfl, fun w' => by go_simp⟩) ?_
            refine wpAny_ready (rs := [16, 21]) (by kernel_rfl) (by simp) ?_
            refine AllReady.cons rfl (fun K hK => ?_) (AllReady.cons rfl (fun K hK => ?_) AllReady.nil)
            · go_simp
              refine hK _ _ ?_
              clear hK K
              refine wpAny_ready (rs := [21]) (by kernel_rfl) (by simp) ?_
              refine AllReady.cons rfl (fun K hK => ?_) AllReady.nil
              go_simp
              refine hK _ _ ?_
              clear hK K
              refine M.takeD (i := 22) (v := .bool true) 76 rfl rfl (by kernel_rfl) (by kernel_rfl) (by kernel_rfl) (fun _ _ _ h => h) (.inl ⟨by kernel_rfl, fun w' => by go_simp⟩) ?_
              refine M.takeD (i := 23) (v := .bool true) 77 rfl rfl (by kernel_rfl) (by kernel_rfl) (by kernel_rfl) (fun _ _ _ h => h) (.inl ⟨by kernel_rfl, fun w' => by go_simp⟩) ?_
              refine wpAny_done (by kernel_rfl) ?_ _
              try go_simp
              clear x0 x1 x2 y0 y1 y2
              go_wp2
              go_ret
              exact ⟨false, rfl, ⟨fun h => (by cases h), fun h => absurd h HX.out⟩, HBq.out.drew⟩
            · go_simp
              refine hK _ _ ?_
              clear hK K
              refine wpAny_ready (rs := [16]) (by kernel_rfl) (by simp) ?_
              refine AllReady.cons rfl (fun K hK => ?_) AllReady.nil
              go_simp
              refine hK _ _ ?_
              clear hK K
              refine M.takeD (i := 22) (v := .bool true) 76 rfl rfl (by kernel_rfl) (by kernel_rfl) (by kernel_rfl) (fun _ _ _ h => h) (.inl ⟨by kernel_rfl, fun w' => by go_simp⟩) ?_
              refine M.takeD (i := 23) (v := .bool true) 77 rfl rfl (by kernel_rfl) (by kernel_rfl) (by kernel_rfl) (fun _ _ _ h => h) (.inl ⟨by kernel_rfl, fun w' => by go_simp⟩) ?_
              refine wpAny_done (by kernel_rfl) ?_ _
              try go_simp
              clear x0 x1 x2 y0 y1 y2
              go_wp2
              go_ret
              exact ⟨false, rfl, ⟨fun h => (by cases h), fun h => absurd h HX.out⟩, HBq.out.drew⟩
          · go_simp
            refine hK _ _ ?_
            clear hK K
            refine wpAny_ready (rs := [4]) (by kernel_rfl) (by simp) ?_
            refine AllReady.cons rfl (fun K hK => ?_) AllReady.nil
            go_simp
            refine hK _ _ ?_
            clear hK K
            refine M.takeD (i := 10) (v := .bool true) 64 rfl rfl (by kernel_rfl) (by kernel_rfl) (by kernel_rfl) (fun _ _ _ h => h) (.inl ⟨by kernel_rfl, fun w' => by go_simp⟩) ?_
            refine M.takeD (i := 11) (v := .bool true) 65 rfl rfl (by kernel_rfl) (by kernel_rfl) (by kernel_rfl) (fun _ _ _ h => h) (.inl ⟨by kernel_rfl, fun w' => by go_simp⟩) ?_
            refine M.takeD (i := 12) (v := .slice (some ⟨b, off, none⟩) n c) 66 rfl rfl (by kernel_rfl) (by kernel_rfl) (by kernel_rfl) (fun _ _ _ h => h) (.inl ⟨by kernel_rfl, fun w' => by go_simp⟩) ?_
            refine M.takeD (i := 13) (v := .int .i64 (q : Int)) 67 rfl rfl (by kernel_rfl) (by kernel_rfl) (by kernel_rfl) (fun _ _ _ h => h) (.inl ⟨by kernel_rfl, fun w' => by go_simp⟩) ?_
            refine M.takeD (i := 14) (v := .pointer (some ⟨b, off + q * 9, none⟩)) 68 rfl rfl (by kernel_rfl) (by kernel_rfl) (by kernel_rfl) (fun _ _ _ h => h) (.inl ⟨by kernel_rfl, fun w' => by go_simp⟩) ?_
            refine M.takeD (i := 15) (v := .pointer (some ⟨b, off + q * 9 + 2, none⟩)) 69 rfl rfl (by kernel_rfl) (by kernel_rfl) (by kernel_rfl) (fun _ _ _ h => h) (.inl ⟨by kernel_rfl, fun w' => by go_simp⟩) ?_
            refine M.takeD (i := 17) (v := .slice (some ⟨b, off, none⟩) n c) 71 rfl rfl (by kernel_rfl) (by kernel_rfl) (by kernel_rfl) (fun _ _ _ h => h) (.inl ⟨by kernel_rfl, fun w' => by go_simp⟩) ?_
            refine M.takeD (i := 18) (v := .int .i64 (k : Int)) 72 rfl rfl (by kernel_rfl) (by kernel_rfl) (by kernel_rfl) (fun _ _ _ h => h) (.inl ⟨by kernel_rfl, fun w' => by go_simp⟩) ?_
            refine M.takeD (i := 19) (v := .pointer (some ⟨b, off + k * 9, none⟩)) 73 rfl rfl (by kernel_rfl) (by kernel_rfl) (by kernel_rfl) (fun _ _ _ h => h) (.inl ⟨by kernel_rfl, fun w' => by go_simp⟩) ?_
            refine M.takeD (i := 20) (v := .pointer (some ⟨b, off + k * 9 + 2, none⟩)) 74 rfl rfl (by kernel_rfl) (by kernel_rfl) (by kernel_rfl) (fun _ _ _ h => h) (.inl ⟨by kernel_rfl, fun w' => by go_simp⟩) ?_
            refine wpAny_ready (rs := [16, 21]) (by kernel_rfl) (by simp) ?_
            refine AllReady.cons rfl (fun K hK => ?_) (AllReady.cons rfl (fun K hK => ?_) AllReady.nil)
            · go_simp
              refine hK _ _ ?_
              clear hK K
              refine wpAny_ready (rs := [21]) (by kernel_rfl) (by simp) ?_
              refine AllReady.cons rfl (fun K hK => ?_) AllReady.nil
              go_simp
              refine hK _ _ ?_
              clear hK K
              refine M.takeD (i := 22) (v := .bool true) 76 rfl rfl (by kernel_rfl) (by kernel_rfl) (by kernel_rfl) (fun _ _ _ h => h) (.inl ⟨by kernel_rfl, fun w' => by go_simp⟩) ?_
              refine M.takeD (i := 23) (v := .bool true) 77 rfl rfl (by kernel_rfl) (by kernel_rfl) (by kernel_rfl) (fun _ _ _ h => h) (.inl ⟨by kernel_rfl, fun w' => by go_simp⟩) ?_
              refine wpAny_done (by kernel_rfl) ?_ _
              try go_simp
              clear x0 x1 x2 y0 y1 y2
              go_wp2
              go_ret
              exact ⟨false, rfl, ⟨fun h => (by cases h), fun h => absurd h HX.out⟩, HBq.out.drew⟩
            · go_simp
              refine hK _ _ ?_
              clear hK K
              refine wpAny_ready (rs := [16]) (by kernel_rfl) (by simp) ?_
              refine AllReady.cons rfl (fun K hK => ?_) AllReady.nil
              go_simp
              refine hK _ _ ?_
              clear hK K
              refine M.takeD (i := 22) (v := .bool true) 76 rfl rfl (by kernel_rfl) (by kernel_rfl) (by kernel_rfl) (fun _ _ _ h => h) (.inl ⟨by kernel_rfl, fun w' => by go_simp⟩) ?_
              refine M.takeD (i := 23) (v := .bool true) 77 rfl rfl (by kernel_rfl) (by kernel_rfl) (by kernel_rfl) (fun _ _ _ h => h) (.inl ⟨by kernel_rfl, fun w' => by go_simp⟩) ?_
              refine wpAny_done (by kernel_rfl) ?_ _
              try go_simp
              clear x0 x1 x2 y0 y1 y2
              go_wp2
              go_ret
              exact ⟨false, rfl, ⟨fun h => (by cases h), fun h => absurd h HX.out⟩, HBq.out.drew⟩
    · go_simp
      refine hK _ _ ?_
      clear hK K
      refine wpAny_ready (rs := [15]) (by kernel_rfl) (by simp) ?_
      refine AllReady.cons rfl (fun K hK => ?_) AllReady.nil
      go_simp
      refine hK _ _ ?_
      clear hK K
      refine M.takeD (i := 21) (v := .bool false) 35 rfl rfl (by kernel_rfl) (by kernel_rfl) (by kernel_rfl) (fun _ _ _ h => h) (.inl ⟨by kernel_rfl, fun w' => by go_simp⟩) ?_
      refine M.takeD (i := 22) (v := .bool false) 36 rfl rfl (by kernel_rfl) (by kernel_rfl) (by kernel_rfl) (fun _ _ _ h => h) (.inl ⟨by kernel_rfl, fun w' => by go_simp⟩) ?_
      refine M.takeD (i := 23) (v := .bool false) 37 rfl rfl (by kernel_rfl) (by kernel_rfl) (by kernel_rfl) (fun _ _ _ h => h) (.inl ⟨by kernel_rfl, fun w' => by go_simp⟩) ?_
      refine M.takeD (i := 24) (v := .bool false) 38 rfl rfl (by kernel_rfl) (by kernel_rfl) (by kernel_rfl) (fun _ _ _ h => h) (.inl ⟨by kernel_rfl, fun w' => by go_simp⟩) ?_
      refine M.takeD (i := 25) (v := .slice (some ⟨b, off, none⟩) n c) 39 rfl rfl (by kernel_rfl) (by kernel_rfl) (by kernel_rfl) (fun _ _ _ h => h) (.inl ⟨by kernel_rfl, fun w' => by go_simp⟩) ?_
      refine M.takeD (i := 26) (v := .slice (some ⟨b, off, none⟩) n c) 40 rfl rfl (by kernel_rfl) (by kernel_rfl) (by kernel_rfl) (fun _ _ _ h => h) (.inl ⟨by kernel_rfl, fun w' => by go_simp⟩) ?_
      refine M.takeD (i := 27) (v := .int .i64 (k : Int)) 41 rfl rfl (by kernel_rfl) (by kernel_rfl) (by kernel_rfl) (fun _ _ _ h => h) (.inl ⟨by kernel_rfl, fun w' => by go_simp⟩) ?_
      refine M.takeD (i := 28) (v := .pointer (some ⟨b, off + k * 9, none⟩)) 42 rfl rfl (by kernel_rfl) (by kernel_rfl) (by kernel_rfl) (fun _ _ _ h => h) (.inl ⟨by kernel_rfl, fun w' => by go_simp⟩) ?_
      refine M.takeD (i := 29) (v := .pointer (some ⟨b, off + k * 9 + 1, none⟩)) 43 rfl rfl (by kernel_rfl) (by kernel_rfl) (by kernel_rfl) (fun _ _ _ h => h) (.inl ⟨by kernel_rfl, fun w' => by go_simp⟩) ?_
      refine wpAny_ready (rs := [30]) (by kernel_rfl) (by simp) ?_
      refine AllReady.cons rfl (fun K hK => ?_) AllReady.nil
      go_simp
      refine hK _ _ ?_
      clear hK K
      refine wpAny_ready (rs := [31]) (by kernel_rfl) (by simp) ?_
      refine AllReady.cons rfl (fun K hK => ?_) AllReady.nil
      refine M.stepCallE2 45 rfl (by kernel_rfl) 26 (.tmp 39) (.tmp 44) 25 9 rfl (.slice (some ⟨b, off, none⟩) n c) (.string d.host) (by simp [Act.eval]) (by simp [Act.eval]) _ (CM.out _ A5.out) (by kernel_rfl) ?_
      rintro v6 w6 ⟨hO6, hb6⟩
      obtain ⟨a6, c6, rfl, hM6⟩ := hO6.mks
      have M6 := M.hl hM6
      have B6 := M.hl (M.sl B5.out hb6)
      clear hO6 hb6 hM6
      try go_simp
      refine hK _ _ ?_
      clear hK K
      refine wpAny_ready (rs := [32]) (by kernel_rfl) (by simp) ?_
      refine AllReady.cons rfl (fun K hK => ?_) AllReady.nil
      refine M.stepCallE1 46 rfl (by kernel_rfl) 25 (.tmp 45) 50 rfl (.slice a6 (M.marksOf ds d.host).length c6) (by simp [Act.eval]) _ (M.marksRB M6.out) (by kernel_rfl) ?_
      rintro v7 w7 ⟨v, rfl, hv7, hb7⟩
      have B7 := M.hl (M.sl B6.out hb7)
      have HV7 := M.hl hv7
      clear hv7 hb7
      try go_simp
      refine hK _ _ ?_
      clear hK K
      refine M.takeD (i := 33) (v := .bool (!v)) 47 rfl rfl (by kernel_rfl) (by kernel_rfl) (by kernel_rfl) (fun _ _ _ h => h) (.inl ⟨by kernel_rfl, fun w' => by go_simp⟩) ?_
      refine M.takeD (i := 34) (v := .bool (!v)) 48 rfl rfl (by kernel_rfl) (by kernel_rfl) (by kernel_rfl) (fun _ _ _ h => h) (.inl ⟨by kernel_rfl, fun w' => by go_simp⟩) ?_
      refine wpAny_done (by kernel_rfl) ?_ _
      try go_simp
      cases v with
      | false =>
        have HX : Hid (¬ C) := HX0.out k d HFK.out (fun hc => absurd (HV7.out.2 hc.2.2.1) (by simp))
        go_wp2
        go_ret
        exact ⟨false, rfl, ⟨fun h => (by cases h), fun h => absurd h HX.out⟩, B7.out⟩
      | true =>
        have HMR : Hid (M.MarksR (M.marksOf ds d.host)) := HV7.out.1 rfl
        clear HV7
        clear CR CM
        simp only [Bool.not_true]
        go_wp2
        go_loopw [4] (fun i wr => ∃ q : Nat, i = .int .i64 q ∧ q ≤ k ∧ Hid (∀ p g, p < q → ds[p]? = some g → g.host = d.host → g.run < d.run) ∧ Hid (Below w.heap.size w wr)) (fun i _ => k - (intOf i).toNat)
        case atStart => exact ⟨0, rfl, Nat.zero_le _, (fun p g hp => absurd hp (Nat.not_lt_zero _)), B7⟩
        case round =>
          obtain ⟨q, rfl, hq, HQ, HBq⟩ := hrel
          by_cases hqk : q < k
          case neg =>
            have HA2 := M.hl (HNX.out HID.out HMR.out (fun p g hp hg he => HQ.out p g (by omega) hg he))
            go_wp2
            go_roundw
            case rel => exact ⟨k + 1, by go_num, by omega, HA2, HBq⟩
            case measure => simp [intOf]; omega
          obtain ⟨b1, off1, d1, e1, hf1, ⟨x0, x1, x2, -⟩, -⟩ := (HF.out.below HBq.out).at hlt
          obtain ⟨b2, off2, g, e2, hg2, ⟨y0, y1, y2, -⟩, -⟩ := (HF.out.below HBq.out).at (k := q) (by omega)
          cases e1
          cases e2
          rw [HFK.out] at hf1
          obtain rfl := Option.some.inj hf1
          have HG2 := M.hl hg2
          have hql : (q : Int) < (n : Int) := by omega
          clear hf1 hg2
          by_cases hh : g.host = d.host
          case neg =>
            have e0 : (g.host.toList == d.host.toList) = false := by
              cases e : (g.host.toList == d.host.toList)
              · rfl
              · exact absurd (M.sameT.1 e) hh
            have HQ2 : Hid (∀ p g, p < q + 1 → ds[p]? = some g → g.host = d.host → g.run < d.run) := fun p x hp hx he => by
              by_cases e : p = q
              · subst e
                rw [HG2.out] at hx
                obtain rfl := Option.some.inj hx
                exact absurd he hh
              · exact HQ.out p x (by omega) hx he
            clear hh
            go_wp2_with fail
            refine wp_region_any (by kernel_rfl) ?_
            change wpAny _ _ _ _ _ _ _ (World.drew _)
            refine M.takeD (i := 0) (v := .slice (some ⟨b, off, none⟩) n c) 54 rfl rfl (by kernel_rfl) (by kernel_rfl) (by kernel_rfl) (fun _ _ _ h => h) (.inl ⟨by kernel_rfl, fun w' => by go_simp⟩) ?_
            refine M.takeD (i := 1) (v := .int .i64 (q : Int)) 55 rfl rfl (by kernel_rfl) (by kernel_rfl) (by kernel_rfl) (fun _ _ _ h => h) (.inl ⟨by kernel_rfl, fun w' => by go_simp⟩) ?_
            refine M.takeD (i := 2) (v := .pointer (some ⟨b, off + q * 9, none⟩)) 56 rfl rfl (by kernel_rfl) (by kernel_rfl) (by kernel_rfl) (fun _ _ _ h => h) (.inl ⟨by kernel_rfl, fun w' => by go_simp⟩) ?_
            refine M.takeD (i := 3) (v := .pointer (some ⟨b, off + q * 9 + 1, none⟩)) 57 rfl rfl (by kernel_rfl) (by kernel_rfl) (by kernel_rfl) (fun _ _ _ h => h) (.inl ⟨by kernel_rfl, fun w' => by go_simp⟩) ?_
            refine M.takeD (i := 5) (v := .slice (some ⟨b, off, none⟩) n c) 59 rfl rfl (by kernel_rfl) (by kernel_rfl) (by kernel_rfl) (fun _ _ _ h => h) (.inl ⟨by kernel_rfl, fun w' => by go_simp⟩) ?_
            refine M.takeD (i := 6) (v := .int .i64 (k : Int)) 60 rfl rfl (by kernel_rfl) (by kernel_rfl) (by kernel_rfl) (fun _ _ _ h => h) (.inl ⟨by kernel_rfl, fun w' => by go_simp⟩) ?_
            refine M.takeD (i := 7) (v := .pointer (some ⟨b, off + k * 9, none⟩)) 61 rfl rfl (by kernel_rfl) (by kernel_rfl) (by kernel_rfl) (fun _ _ _ h => h) (.inl ⟨by kernel_rfl, fun w' => by go_simp⟩) ?_
            refine M.takeD (i := 8) (v := .pointer (some ⟨b, off + k * 9 + 1, none⟩)) 62 rfl rfl (by kernel_rfl) (by kernel_rfl) (by kernel_rfl) (fun _ _ _ h => h) (.inl ⟨by kernel_rfl, fun w' => by go_simp⟩) ?_
            refine wpAny_ready (rs := [4, 9]) (by kernel_rfl) (by simp) ?_
            refine AllReady.cons rfl (fun K hK => ?_) (AllReady.cons rfl (fun K hK => ?_) AllReady.nil)
            · go_simp
              refine hK _ _ ?_
              clear hK K
              refine wpAny_ready (rs := [9]) (by kernel_rfl) (by simp) ?_
              refine AllReady.cons rfl (fun K hK => ?_) AllReady.nil
              go_simp
              refine hK _ _ ?_
              clear hK K
              refine M.takeD (i := 10) (v := .bool false) 64 rfl rfl (by kernel_rfl) (by kernel_rfl) (by kernel_rfl) (fun _ _ _ h => h) (.inl ⟨by kernel_rfl, fun w' => by go_simp⟩) ?_
              refine M.takeD (i := 11) (v := .bool false) 65 rfl rfl (by kernel_rfl) (by kernel_rfl) (by kernel_rfl) (fun _ _ _ h => h) (.inl ⟨by kernel_rfl, fun w' => by go_simp⟩) ?_
              refine M.takeD (i := 12) (v := undef) 66 rfl rfl (by kernel_rfl) (by kernel_rfl) (by kernel_rfl) (fun _ _ _ h => h) (.inr ⟨by kernel_rfl, rfl⟩) ?_
              refine M.takeD (i := 13) (v := undef) 67 rfl rfl (by kernel_rfl) (by kernel_rfl) (by kernel_rfl) (fun _ _ _ h => h) (.inr ⟨by kernel_rfl, rfl⟩) ?_
              refine M.takeD (i := 14) (v := undef) 68 rfl rfl (by kernel_rfl) (by kernel_rfl) (by kernel_rfl) (fun _ _ _ h => h) (.inr ⟨by kernel_rfl, rfl⟩) ?_
              refine M.takeD (i := 15) (v := undef) 69 rfl rfl (by kernel_rfl) (by kernel_rfl) (by kernel_rfl) (fun _ _ _ h => h) (.inr ⟨by kernel_rfl, rfl⟩) ?_
              refine M.takeD (i := 16) (v := undef) 70 rfl rfl (by kernel_rfl) (by kernel_rfl) (by kernel_rfl) (fun _ _ _ h => h) (.inr ⟨by kernel_rfl, rfl⟩) ?_
              refine M.takeD (i := 17) (v := undef) 71 rfl rfl (by kernel_rfl) (by kernel_rfl) (by kernel_rfl) (fun _ _ _ h => h) (.inr ⟨by kernel_rfl, rfl⟩) ?_
              refine M.takeD (i := 18) (v := undef) 72 rfl rfl (by kernel_rfl) (by kernel_rfl) (by kernel_rfl) (fun _ _ _ h => h) (.inr ⟨by kernel_rfl, rfl⟩) ?_
              refine M.takeD (i := 19) (v := undef) 73 rfl rfl (by kernel_rfl) (by kernel_rfl) (by kernel_rfl) (fun _ _ _ h => h) (.inr ⟨by kernel_rfl, rfl⟩) ?_
              refine M.takeD (i := 20) (v := undef) 74 rfl rfl (by kernel_rfl) (by kernel_rfl) (by kernel_rfl) (fun _ _ _ h => h) (.inr ⟨by kernel_rfl, rfl⟩) ?_
              refine M.takeD (i := 21) (v := undef) 75 rfl rfl (by kernel_rfl) (by kernel_rfl) (by kernel_rfl) (fun _ _ _ h => h) (.inr ⟨by kernel_rfl, rfl⟩) ?_
              refine M.takeD (i := 22) (v := undef) 76 rfl rfl (by kernel_rfl) (by kernel_rfl) (by kernel_rfl) (fun _ _ _ h => h) (.inr ⟨by kernel_rfl, rfl⟩) ?_
              refine M.takeD (i := 23) (v := .bool false) 77 rfl rfl (by kernel_rfl) (by kernel_rfl) (by kernel_rfl) (fun _ _ _ h => h) (.inl ⟨by kernel_rfl, fun w' => by go_simp⟩) ?_
              refine wpAny_done (by kernel_rfl) ?_ _
              try go_simp
              clear x0 x1 x2 y0 y1 y2
              go_wp2
              go_roundw
              case rel => exact ⟨q + 1, by go_num, by omega, HQ2, HBq.out.drew⟩
              case measure => simp [intOf]; omega
            · go_simp
              refine hK _ _ ?_
              clear hK K
              refine wpAny_ready (rs := [4]) (by kernel_rfl) (by simp) ?_
              refine AllReady.cons rfl (fun K hK => ?_) AllReady.nil
              go_simp
              refine hK _ _ ?_
              clear hK K
              refine M.takeD (i := 10) (v := .bool false) 64 rfl rfl (by kernel_rfl) (by kernel_rfl) (by kernel_rfl) (fun _ _ _ h => h) (.inl ⟨by kernel_rfl, fun w' => by go_simp⟩) ?_
              refine M.takeD (i := 11) (v := .bool false) 65 rfl rfl (by kernel_rfl) (by kernel_rfl) (by kernel_rfl) (fun _ _ _ h => h) (.inl ⟨by kernel_rfl, fun w' => by go_simp⟩) ?_
              refine M.takeD (i := 12) (v := undef) 66 rfl rfl (by kernel_rfl) (by kernel_rfl) (by kernel_rfl) (fun _ _ _ h => h) (.inr ⟨by kernel_rfl, rfl⟩) ?_
              refine M.takeD (i := 13) (v := undef) 67 rfl rfl (by kernel_rfl) (by kernel_rfl) (by kernel_rfl) (fun _ _ _ h => h) (.inr ⟨by kernel_rfl, rfl⟩) ?_
              refine M.takeD (i := 14) (v := undef) 68 rfl rfl (by kernel_rfl) (by kernel_rfl) (by kernel_rfl) (fun _ _ _ h => h) (.inr ⟨by kernel_rfl, rfl⟩) ?_
              refine M.takeD (i := 15) (v := undef) 69 rfl rfl (by kernel_rfl) (by kernel_rfl) (by kernel_rfl) (fun _ _ _ h => h) (.inr ⟨by kernel_rfl, rfl⟩) ?_
              refine M.takeD (i := 16) (v := undef) 70 rfl rfl (by kernel_rfl) (by kernel_rfl) (by kernel_rfl) (fun _ _ _ h => h) (.inr ⟨by kernel_rfl, rfl⟩) ?_
              refine M.takeD (i := 17) (v := undef) 71 rfl rfl (by kernel_rfl) (by kernel_rfl) (by kernel_rfl) (fun _ _ _ h => h) (.inr ⟨by kernel_rfl, rfl⟩) ?_
              refine M.takeD (i := 18) (v := undef) 72 rfl rfl (by kernel_rfl) (by kernel_rfl) (by kernel_rfl) (fun _ _ _ h => h) (.inr ⟨by kernel_rfl, rfl⟩) ?_
              refine M.takeD (i := 19) (v := undef) 73 rfl rfl (by kernel_rfl) (by kernel_rfl) (by kernel_rfl) (fun _ _ _ h => h) (.inr ⟨by kernel_rfl, rfl⟩) ?_
              refine M.takeD (i := 20) (v := undef) 74 rfl rfl (by kernel_rfl) (by kernel_rfl) (by kernel_rfl) (fun _ _ _ h => h) (.inr ⟨by kernel_rfl, rfl⟩) ?_
              refine M.takeD (i := 21) (v := undef) 75 rfl rfl (by kernel_rfl) (by kernel_rfl) (by kernel_rfl) (fun _ _ _ h => h) (.inr ⟨by kernel_rfl, rfl⟩) ?_
              refine M.takeD (i := 22) (v := undef) 76 rfl rfl (by kernel_rfl) (by kernel_rfl) (by kernel_rfl) (fun _ _ _ h => h) (.inr ⟨by kernel_rfl, rfl⟩) ?_
              refine M.takeD (i := 23) (v := .bool false) 77 rfl rfl (by kernel_rfl) (by kernel_rfl) (by kernel_rfl) (fun _ _ _ h => h) (.inl ⟨by kernel_rfl, fun w' => by go_simp⟩) ?_
              refine wpAny_done (by kernel_rfl) ?_ _
              try go_simp
              clear x0 x1 x2 y0 y1 y2
              go_wp2
              go_roundw
              case rel => exact ⟨q + 1, by go_num, by omega, HQ2, HBq.out.drew⟩
              case measure => simp [intOf]; omega
          have e0 : (g.host.toList == d.host.toList) = true := by rw [hh]; simp
          have HH := M.hl hh
          clear hh
          by_cases hle : d.run ≤ g.run
          case neg =>
            have e3 : decide (d.run ≤ g.run) = false := decide_eq_false hle
            have HQ2 : Hid (∀ p g, p < q + 1 → ds[p]? = some g → g.host = d.host → g.run < d.run) := fun p x hp hx he => by
              by_cases e : p = q
              · subst e
                rw [HG2.out] at hx
                obtain rfl := Option.some.inj hx
                omega
              · exact HQ.out p x (by omega) hx he
            clear hle
            go_wp2_with fail
            refine wp_region_any (by kernel_rfl) ?_
            change wpAny _ _ _ _ _ _ _ (World.drew _)
            refine M.takeD (i := 0) (v := .slice (some ⟨b, off, none⟩) n c) 54 rfl rfl (by kernel_rfl) (by kernel_rfl) (by kernel_rfl) (fun _ _ _ h => h) (.inl ⟨by kernel_rfl, fun w' => by go_simp⟩) ?_
            refine M.takeD (i := 1) (v := .int .i64 (q : Int)) 55 rfl rfl (by kernel_rfl) (by kernel_rfl) (by kernel_rfl) (fun _ _ _ h => h) (.inl ⟨by kernel_rfl, fun w' => by go_simp⟩) ?_
            refine M.takeD (i := 2) (v := .pointer (some ⟨b, off + q * 9, none⟩)) 56 rfl rfl (by kernel_rfl) (by kernel_rfl) (by kernel_rfl) (fun _ _ _ h => h) (.inl ⟨by kernel_rfl, fun w' => by go_simp⟩) ?_
            refine M.takeD (i := 3) (v := .pointer (some ⟨b, off + q * 9 + 1, none⟩)) 57 rfl rfl (by kernel_rfl) (by kernel_rfl) (by kernel_rfl) (fun _ _ _ h => h) (.inl ⟨by kernel_rfl, fun w' => by go_simp⟩) ?_
            refine M.takeD (i := 5) (v := .slice (some ⟨b, off, none⟩) n c) 59 rfl rfl (by kernel_rfl) (by kernel_rfl) (by kernel_rfl) (fun _ _ _ h => h) (.inl ⟨by kernel_rfl, fun w' => by go_simp⟩) ?_
            refine M.takeD (i := 6) (v := .int .i64 (k : Int)) 60 rfl rfl (by kernel_rfl) (by kernel_rfl) (by kernel_rfl) (fun _ _ _ h => h) (.inl ⟨by kernel_rfl, fun w' => by go_simp⟩) ?_
            refine M.takeD (i := 7) (v := .pointer (some ⟨b, off + k * 9, none⟩)) 61 rfl rfl (by kernel_rfl) (by kernel_rfl) (by kernel_rfl) (fun _ _ _ h => h) (.inl ⟨by kernel_rfl, fun w' => by go_simp⟩) ?_
            refine M.takeD (i := 8) (v := .pointer (some ⟨b, off + k * 9 + 1, none⟩)) 62 rfl rfl (by kernel_rfl) (by kernel_rfl) (by kernel_rfl) (fun _ _ _ h => h) (.inl ⟨by kernel_rfl, fun w' => by go_simp⟩) ?_
            refine wpAny_ready (rs := [4, 9]) (by kernel_rfl) (by simp) ?_
            refine AllReady.cons rfl (fun K hK => ?_) (AllReady.cons rfl (fun K hK => ?_) AllReady.nil)
            · go_simp
              refine hK _ _ ?_
              clear hK K
              refine wpAny_ready (rs := [9]) (by kernel_rfl) (by simp) ?_
              refine AllReady.cons rfl (fun K hK => ?_) AllReady.nil
              go_simp
              refine hK _ _ ?_
              clear hK K
              refine M.takeD (i := 10) (v := .bool true) 64 rfl rfl (by kernel_rfl) (by kernel_rfl) (by kernel_rfl) (fun _ _ _ h => h) (.inl ⟨by kernel_rfl, fun w' => by go_simp⟩) ?_
              refine M.takeD (i := 11) (v := .bool true) 65 rfl rfl (by kernel_rfl) (by kernel_rfl) (by kernel_rfl) (fun _ _ _ h => h) (.inl ⟨by kernel_rfl, fun w' => by go_simp⟩) ?_
              refine M.takeD (i := 12) (v := .slice (some ⟨b, off, none⟩) n c) 66 rfl rfl (by kernel_rfl) (by kernel_rfl) (by kernel_rfl) (fun _ _ _ h => h) (.inl ⟨by kernel_rfl, fun w' => by go_simp⟩) ?_
              refine M.takeD (i := 13) (v := .int .i64 (q : Int)) 67 rfl rfl (by kernel_rfl) (by kernel_rfl) (by kernel_rfl) (fun _ _ _ h => h) (.inl ⟨by kernel_rfl, fun w' => by go_simp⟩) ?_
              refine M.takeD (i := 14) (v := .pointer (some ⟨b, off + q * 9, none⟩)) 68 rfl rfl (by kernel_rfl) (by kernel_rfl) (by kernel_rfl) (fun _ _ _ h => h) (.inl ⟨by kernel_rfl, fun w' => by go_simp⟩) ?_
              refine M.takeD (i := 15) (v := .pointer (some ⟨b, off + q * 9 + 2, none⟩)) 69 rfl rfl (by kernel_rfl) (by kernel_rfl) (by kernel_rfl) (fun _ _ _ h => h) (.inl ⟨by kernel_rfl, fun w' => by go_simp⟩) ?_
              refine M.takeD (i := 17) (v := .slice (some ⟨b, off, none⟩) n c) 71 rfl rfl (by kernel_rfl) (by kernel_rfl) (by kernel_rfl) (fun _ _ _ h => h) (.inl ⟨by kernel_rfl, fun w' => by go_simp⟩) ?_
              refine M.takeD (i := 18) (v := .int .i64 (k : Int)) 72 rfl rfl (by kernel_rfl) (by kernel_rfl) (by kernel_rfl) (fun _ _ _ h => h) (.inl ⟨by kernel_rfl, fun w' => by go_simp⟩) ?_
              refine M.takeD (i := 19) (v := .pointer (some ⟨b, off + k * 9, none⟩)) 73 rfl rfl (by kernel_rfl) (by kernel_rfl) (by kernel_rfl) (fun _ _ _ h => h) (.inl ⟨by kernel_rfl, fun w' => by go_simp⟩) ?_
              refine M.takeD (i := 20) (v := .pointer (some ⟨b, off + k * 9 + 2, none⟩)) 74 rfl rfl (by kernel_rfl) (by kernel_rfl) (by kernel_rfl) (fun _ _ _ h => h) (.inl ⟨by kernel_rfl, fun w' => by go_simp⟩) ?_
              refine wpAny_ready (rs := [16, 21]) (by kernel_rfl) (by simp) ?_
              refine AllReady.cons rfl (fun K hK => ?_) (AllReady.cons rfl (fun K hK => ?_) AllReady.nil)
              · go_simp
                refine hK _ _ ?_
                clear hK K
                refine wpAny_ready (rs := [21]) (by kernel_rfl) (by simp) ?_
                refine AllReady.cons rfl (fun K hK => ?_) AllReady.nil
                go_simp
                refine hK _ _ ?_
                clear hK K
                refine M.takeD (i := 22) (v := .bool false) 76 rfl rfl (by kernel_rfl) (by kernel_rfl) (by kernel_rfl) (fun _ _ _ h => h) (.inl ⟨by kernel_rfl, fun w' => by go_simp⟩) ?_
                refine M.takeD (i := 23) (v := .bool false) 77 rfl rfl (by kernel_rfl) (by kernel_rfl) (by kernel_rfl) (fun _ _ _ h => h) (.inl ⟨by kernel_rfl, fun w' => by go_simp⟩) ?_
                refine wpAny_done (by kernel_rfl) ?_ _
                try go_simp
                clear x0 x1 x2 y0 y1 y2
                go_wp2
                go_roundw
                case rel => exact ⟨q + 1, by go_num, by omega, HQ2, HBq.out.drew⟩
                case measure => simp [intOf]; omega
              · go_simp
                refine hK _ _ ?_
                clear hK K
                refine wpAny_ready (rs := [16]) (by kernel_rfl) (by simp) ?_
                refine AllReady.cons rfl (fun K hK => ?_) AllReady.nil
                go_simp
                refine hK _ _ ?_
                clear hK K
                refine M.takeD (i := 22) (v := .bool false) 76 rfl rfl (by kernel_rfl) (by kernel_rfl) (by kernel_rfl) (fun _ _ _ h => h) (.inl ⟨by kernel_rfl, fun w' => by go_simp⟩) ?_
                refine M.takeD (i := 23) (v := .bool false) 77 rfl rfl (by kernel_rfl) (by kernel_rfl) (by kernel_rfl) (fun _ _ _ h => h) (.inl ⟨by kernel_rfl, fun w' => by go_simp⟩) ?_
                refine wpAny_done (by kernel_rfl) ?_ _
                try go_simp
                clear x0 x1 x2 y0 y1 y2
                go_wp2
                go_roundw
                case rel => exact ⟨q + 1, by go_num, by omega, HQ2, HBq.out.drew⟩
                case measure => simp [intOf]; omega
            · go_simp
              refine hK _ _ ?_
              clear hK K
              refine wpAny_ready (rs := [4]) (by kernel_rfl) (by simp) ?_
              refine AllReady.cons rfl (fun K hK => ?_) AllReady.nil
              go_simp
              refine hK _ _ ?_
              clear hK K
              refine M.takeD (i := 10) (v := .bool true) 64 rfl rfl (by kernel_rfl) (by kernel_rfl) (by kernel_rfl) (fun _ _ _ h => h) (.inl ⟨by kernel_rfl, fun w' => by go_simp⟩) ?_
              refine M.takeD (i := 11) (v := .bool true) 65 rfl rfl (by kernel_rfl) (by kernel_rfl) (by kernel_rfl) (fun _ _ _ h => h) (.inl ⟨by kernel_rfl, fun w' => by go_simp⟩) ?_
              refine M.takeD (i := 12) (v := .slice (some ⟨b, off, none⟩) n c) 66 rfl rfl (by kernel_rfl) (by kernel_rfl) (by kernel_rfl) (fun _ _ _ h => h) (.inl ⟨by kernel_rfl, fun w' => by go_simp⟩) ?_
              refine M.takeD (i := 13) (v := .int .i64 (q : Int)) 67 rfl rfl (by kernel_rfl) (by kernel_rfl) (by kernel_rfl) (fun _ _ _ h => h) (.inl ⟨by kernel_rfl, fun w' => by go_simp⟩) ?_
              refine M.takeD (i := 14) (v := .pointer (some ⟨b, off + q * 9, none⟩)) 68 rfl rfl (by kernel_rfl) (by kernel_rfl) (by kernel_rfl) (fun _ _ _ h => h) (.inl ⟨by kernel_rfl, fun w' => by go_simp⟩) ?_
              refine M.takeD (i := 15) (v := .pointer (some ⟨b, off + q * 9 + 2, none⟩)) 69 rfl rfl (by kernel_rfl) (by kernel_rfl) (by kernel_rfl) (fun _ _ _ h => h) (.inl ⟨by kernel_rfl, fun w' => by go_simp⟩) ?_
              refine M.takeD (i := 17) (v := .slice (some ⟨b, off, none⟩) n c) 71 rfl rfl (by kernel_rfl) (by kernel_rfl) (by kernel_rfl) (fun _ _ _ h => h) (.inl ⟨by kernel_rfl, fun w' => by go_simp⟩) ?_
              refine M.takeD (i := 18) (v := .int .i64 (k : Int)) 72 rfl rfl (by kernel_rfl) (by kernel_rfl) (by kernel_rfl) (fun _ _ _ h => h) (.inl ⟨by kernel_rfl, fun w' => by go_simp⟩) ?_
              refine M.takeD (i := 19) (v := .pointer (some ⟨b, off + k * 9, none⟩)) 73 rfl rfl (by kernel_rfl) (by kernel_rfl) (by kernel_rfl) (fun _ _ _ h => h) (.inl ⟨by kernel_rfl, fun w' => by go_simp⟩) ?_
              refine M.takeD (i := 20) (v := .pointer (some ⟨b, off + k * 9 + 2, none⟩)) 74 rfl rfl (by kernel_rfl) (by kernel_rfl) (by kernel_rfl) (fun _ _ _ h => h) (.inl ⟨by kernel_rfl, fun w' => by go_simp⟩) ?_
              refine wpAny_ready (rs := [16, 21]) (by kernel_rfl) (by simp) ?_
              refine AllReady.cons rfl (fun K hK => ?_) (AllReady.cons rfl (fun K hK => ?_) AllReady.nil)
              · go_simp
                refine hK _ _ ?_
                clear hK K
                refine wpAny_ready (rs := [21]) (by kernel_rfl) (by simp) ?_
                refine AllReady.cons rfl (fun K hK => ?_) AllReady.nil
                go_simp
                refine hK _ _ ?_
                clear hK K
                refine M.takeD (i := 22) (v := .bool false) 76 rfl rfl (by kernel_rfl) (by kernel_rfl) (by kernel_rfl) (fun _ _ _ h => h) (.inl ⟨by kernel_rfl, fun w' => by go_simp⟩) ?_
                refine M.takeD (i := 23) (v := .bool false) 77 rfl rfl (by kernel_rfl) (by kernel_rfl) (by kernel_rfl) (fun _ _ _ h => h) (.inl ⟨by kernel_rfl, fun w' => by go_simp⟩) ?_
                refine wpAny_done (by kernel_rfl) ?_ _
                try go_simp
                clear x0 x1 x2 y0 y1 y2
                go_wp2
                go_roundw
                case rel => exact ⟨q + 1, by go_num, by omega, HQ2, HBq.out.drew⟩
                case measure => simp [intOf]; omega
              · go_simp
                refine hK _ _ ?_
                clear hK K
                refine wpAny_ready (rs := [16]) (by kernel_rfl) (by simp) ?_
                refine AllReady.cons rfl (fun K hK => ?_) AllReady.nil
                go_simp
                refine hK _ _ ?_
                clear hK K
                refine M.takeD (i := 22) (v := .bool false) 76 rfl rfl (by kernel_rfl) (by kernel_rfl) (by kernel_rfl) (fun _ _ _ h => h) (.inl ⟨by kernel_rfl, fun w' => by go_simp⟩) ?_
                refine M.takeD (i := 23) (v := .bool false) 77 rfl rfl (by kernel_rfl) (by kernel_rfl) (by kernel_rfl) (fun _ _ _ h => h) (.inl ⟨by kernel_rfl, fun w' => by go_simp⟩) ?_
                refine wpAny_done (by kernel_rfl) ?_ _
                try go_simp
                clear x0 x1 x2 y0 y1 y2
                go_wp2
                go_roundw
                case rel => exact ⟨q + 1, by go_num, by omega, HQ2, HBq.out.drew⟩
                case measure => simp [intOf]; omega
          have e3 : decide (d.run ≤ g.run) = true := decide_eq_true hle
          have HX : Hid (¬ C) := HX0.out k d HFK.out (fun hc => by have := hc.2.2.2 q g hqk HG2.out HH.out; omega)
          clear hle
          go_wp2_with fail
          refine wp_region_any (by kernel_rfl) ?_
          change wpAny _ _ _ _ _ _ _ (World.drew _)
          refine M.takeD (i := 0) (v := .slice (some ⟨b, off, none⟩) n c) 54 rfl rfl (by kernel_rfl) (by kernel_rfl) (by kernel_rfl) (fun _ _ _ h => h) (.inl ⟨by kernel_rfl, fun w' => by go_simp⟩) ?_
          refine M.takeD (i := 1) (v := .int .i64 (q : Int)) 55 rfl rfl (by kernel_rfl) (by kernel_rfl) (by kernel_rfl) (fun _ _ _ h => h) (.inl ⟨by kernel_rfl, fun w' => by go_simp⟩) ?_
          refine M.takeD (i := 2) (v := .pointer (some ⟨b, off + q * 9, none⟩)) 56 rfl rfl (by kernel_rfl) (by kernel_rfl) (by kernel_rfl) (fun _ _ _ h => h) (.inl ⟨by kernel_rfl, fun w' => by go_simp⟩) ?_
          refine M.takeD (i := 3) (v := .pointer (some ⟨b, off + q * 9 + 1, none⟩)) 57 rfl rfl (by kernel_rfl) (by kernel_rfl) (by kernel_rfl) (fun _ _ _ h => h) (.inl ⟨by kernel_rfl, fun w' => by go_simp⟩) ?_
          refine M.takeD (i := 5) (v := .slice (some ⟨b, off, none⟩) n c) 59 rfl rfl (by kernel_rfl) (by kernel_rfl) (by kernel_rfl) (fun _ _ _ h => h) (.inl ⟨by kernel_rfl, fun w' => by go_simp⟩) ?_
          refine M.takeD (i := 6) (v := .int .i64 (k : Int)) 60 rfl rfl (by kernel_rfl) (by kernel_rfl) (by kernel_rfl) (fun _ _ _ h => h) (.inl ⟨by kernel_rfl, fun w' => by go_simp⟩) ?_
          refine M.takeD (i := 7) (v := .pointer (some ⟨b, off + k * 9, none⟩)) 61 rfl rfl (by kernel_rfl) (by kernel_rfl) (by kernel_rfl) (fun _ _ _ h => h) (.inl ⟨by kernel_rfl, fun w' => by go_simp⟩) ?_
          refine M.takeD (i := 8) (v := .pointer (some ⟨b, off + k * 9 + 1, none⟩)) 62 rfl rfl (by kernel_rfl) (by kernel_rfl) (by kernel_rfl) (fun _ _ _ h => h) (.inl ⟨by kernel_rfl, fun w' => by go_simp⟩) ?_
          refine wpAny_ready (rs := [4, 9]) (by kernel_rfl) (by simp) ?_
          refine AllReady.cons rfl (fun K hK => ?_) (AllReady.cons rfl (fun K hK => ?_) AllReady.nil)
          · go_simp
            refine hK _ _ ?_
            clear hK K
            refine wpAny_ready (rs := [9]) (by kernel_rfl) (by simp) ?_
            refine AllReady.cons rfl (fun K hK => ?_) AllReady.nil
            go_simp
            refine hK _ _ ?_
            clear hK K
            refine M.takeD (i := 10) (v := .bool true) 64 rfl rfl (by kernel_rfl) (by kernel_rfl) (by kernel_rfl) (fun _ _ _ h => h) (.inl ⟨by kernel_rfl, fun w' => by go_simp⟩) ?_
            refine M.takeD (i := 11) (v := .bool true) 65 rfl rfl (by kernel_rfl) (by kernel_rfl) (by kernel_rfl) (fun _ _ _ h => h) (.inl ⟨by kernel_rfl, fun w' => by go_simp⟩) ?_
            refine M.takeD (i := 12) (v := .slice (some ⟨b, off, none⟩) n c) 66 rfl rfl (by kernel_rfl) (by kernel_rfl) (by kernel_rfl) (fun _ _ _ h => h) (.inl ⟨by kernel_rfl, fun w' => by go_simp⟩) ?_
            refine M.takeD (i := 13) (v := .int .i64 (q : Int)) 67 rfl rfl (by kernel_rfl) (by kernel_rfl) (by kernel_rfl) (fun _ _ _ h => h) (.inl ⟨by kernel_rfl, fun w' => by go_simp⟩) ?_
            refine M.takeD (i := 14) (v := .pointer (some ⟨b, off + q * 9, none⟩)) 68 rfl rfl (by kernel_rfl) (by kernel_rfl) (by kernel_rfl) (fun _ _ _ h => h) (.inl ⟨by kernel_rfl, fun w' => by go_simp⟩) ?_
            refine M.takeD (i := 15) (v := .pointer (some ⟨b, off + q * 9 + 2, none⟩)) 69 rfl rfl (by kernel_rfl) (by kernel_rfl) (by kernel_rfl) (fun _ _ _ h => h) (.inl ⟨by kernel_rfl, fun w' => by go_simp⟩) ?_
            refine M.takeD (i := 17) (v := .slice (some ⟨b, off, none⟩) n c) 71 rfl rfl (by kernel_rfl) (by kernel_rfl) (by kernel_rfl) (fun _ _ _ h => h) (.inl ⟨by kernel_rfl, fun w' => by go_simp⟩) ?_
            refine M.takeD (i := 18) (v := .int .i64 (k : Int)) 72 rfl rfl (by kernel_rfl) (by kernel_rfl) (by kernel_rfl) (fun _ _ _ h => h) (.inl ⟨by kernel_rfl, fun w' => by go_simp⟩) ?_
            refine M.takeD (i := 19) (v := .pointer (some ⟨b, off + k * 9, none⟩)) 73 rfl rfl (by kernel_rfl) (by kernel_rfl) (by kernel_rfl) (fun _ _ _ h => h) (.inl ⟨by kernel_rfl, fun w' => by go_simp⟩) ?_
            refine M.takeD (i := 20) (v := .pointer (some ⟨b, off + k * 9 + 2, none⟩)) 74 rfl rfl (by kernel_rfl) (by kernel_rfl) (by kernel_rfl) (fun _ _ _ h => h) (.inl ⟨by kernel_rfl, fun w' => by go_simp⟩) ?_
            refine wpAny_ready (rs := [16, 21]) (by kernel_rfl) (by simp) ?_
            refine AllReady.cons rfl (fun K hK => ?_) (AllReady.cons rfl (fun K hK => ?_) AllReady.nil)
            · go_simp
              refine hK _ _ ?_
              clear hK K
              refine wpAny_ready (rs := [21]) (by kernel_rfl) (by simp) ?_
              refine AllReady.cons rfl (fun K hK => ?_) AllReady.nil
              go_simp
              refine hK _ _ ?_
              clear hK K
              refine M.takeD (i := 22) (v := .bool true) 76 rfl rfl (by kernel_rfl) (by kernel_rfl) (by kernel_rfl) (fun _ _ _ h => h) (.inl ⟨by kernel_rfl, fun w' => by go_simp⟩) ?_
              refine M.takeD (i := 23) (v := .bool true) 77 rfl rfl (by kernel_rfl) (by kernel_rfl) (by kernel_rfl) (fun _ _ _ h => h) (.inl ⟨by kernel_rfl, fun w' => by go_simp⟩) ?_
              refine wpAny_done (by kernel_rfl) ?_ _
              try go_simp
              clear x0 x1 x2 y0 y1 y2
              go_wp2
              go_ret
              exact ⟨false, rfl, ⟨fun h => (by cases h), fun h => absurd h HX.out⟩, HBq.out.drew⟩
            · go_simp
              refine hK _ _ ?_
              clear hK K
              refine wpAny_ready (rs := [16]) (by kernel_rfl) (by simp) ?_
              refine AllReady.cons rfl (fun K hK => ?_) AllReady.nil
              go_simp
              refine hK _ _ ?_
              clear hK K
              refine M.takeD (i := 22) (v := .bool true) 76 rfl rfl (by kernel_rfl) (by kernel_rfl) (by kernel_rfl) (fun _ _ _ h => h) (.inl ⟨by kernel_rfl, fun w' => by go_simp⟩) ?_
              refine M.takeD (i := 23) (v := .bool true) 77 rfl rfl (by kernel_rfl) (by kernel_rfl) (by kernel_rfl) (fun _ _ _ h => h) (.inl ⟨by kernel_rfl, fun w' => by go_simp⟩) ?_
              refine wpAny_done (by kernel_rfl) ?_ _
              try go_simp
              clear x0 x1 x2 y0 y1 y2
              go_wp2
              go_ret
              exact ⟨false, rfl, ⟨fun h => (by cases h), fun h => absurd h HX.out⟩, HBq.out.drew⟩
          · go_simp
            refine hK _ _ ?_
            clear hK K
            refine wpAny_ready (rs := [4]) (by kernel_rfl) (by simp) ?_
            refine AllReady.cons rfl (fun K hK => ?_) AllReady.nil
            go_simp
            refine hK _ _ ?_
            clear hK K
            refine M.takeD (i := 10) (v := .bool true) 64 rfl rfl (by kernel_rfl) (by kernel_rfl) (by kernel_rfl) (fun _ _ _ h => h) (.inl ⟨by kernel_rfl, fun w' => by go_simp⟩) ?_
            refine M.takeD (i := 11) (v := .bool true) 65 rfl rfl (by kernel_rfl) (by kernel_rfl) (by kernel_rfl) (fun _ _ _ h => h) (.inl ⟨by kernel_rfl, fun w' => by go_simp⟩) ?_
            refine M.takeD (i := 12) (v := .slice (some ⟨b, off, none⟩) n c) 66 rfl rfl (by kernel_rfl) (by kernel_rfl) (by kernel_rfl) (fun _ _ _ h => h) (.inl ⟨by kernel_rfl, fun w' => by go_simp⟩) ?_
            refine M.takeD (i := 13) (v := .int .i64 (q : Int)) 67 rfl rfl (by kernel_rfl) (by kernel_rfl) (by kernel_rfl) (fun _ _ _ h => h) (.inl ⟨by kernel_rfl, fun w' => by go_simp⟩) ?_
            refine M.takeD (i := 14) (v := .pointer (some ⟨b, off + q * 9, none⟩)) 68 rfl rfl (by kernel_rfl) (by kernel_rfl) (by kernel_rfl) (fun _ _ _ h => h) (.inl ⟨by kernel_rfl, fun w' => by go_simp⟩) ?_
            refine M.takeD (i := 15) (v := .pointer (some ⟨b, off + q * 9 + 2, none⟩)) 69 rfl rfl (by kernel_rfl) (by kernel_rfl) (by kernel_rfl) (fun _ _ _ h => h) (.inl ⟨by kernel_rfl, fun w' => by go_simp⟩) ?_
            refine M.takeD (i := 17) (v := .slice (some ⟨b, off, none⟩) n c) 71 rfl rfl (by kernel_rfl) (by kernel_rfl) (by kernel_rfl) (fun _ _ _ h => h) (.inl ⟨by kernel_rfl, fun w' => by go_simp⟩) ?_
            refine M.takeD (i := 18) (v := .int .i64 (k : Int)) 72 rfl rfl (by kernel_rfl) (by kernel_rfl) (by kernel_rfl) (fun _ _ _ h => h) (.inl ⟨by kernel_rfl, fun w' => by go_simp⟩) ?_
            refine M.takeD (i := 19) (v := .pointer (some ⟨b, off + k * 9, none⟩)) 73 rfl rfl (by kernel_rfl) (by kernel_rfl) (by kernel_rfl) (fun _ _ _ h => h) (.inl ⟨by kernel_rfl, fun w' => by go_simp⟩) ?_
            refine M.takeD (i := 20) (v := .pointer (some ⟨b, off + k * 9 + 2, none⟩)) 74 rfl rfl (by kernel_rfl) (by kernel_rfl) (by kernel_rfl) (fun _ _ _ h => h) (.inl ⟨by kernel_rfl, fun w' => by go_simp⟩) ?_
            refine wpAny_ready (rs := [16, 21]) (by kernel_rfl) (by simp) ?_
            refine AllReady.cons rfl (fun K hK => ?_) (AllReady.cons rfl (fun K hK => ?_) AllReady.nil)
            · go_simp
              refine hK _ _ ?_
              clear hK K
              refine wpAny_ready (rs := [21]) (by kernel_rfl) (by simp) ?_
              refine AllReady.cons rfl (fun K hK => ?_) AllReady.nil
              go_simp
              refine hK _ _ ?_
              clear hK K
              refine M.takeD (i := 22) (v := .bool true) 76 rfl rfl (by kernel_rfl) (by kernel_rfl) (by kernel_rfl) (fun _ _ _ h => h) (.inl ⟨by kernel_rfl, fun w' => by go_simp⟩) ?_
              refine M.takeD (i := 23) (v := .bool true) 77 rfl rfl (by kernel_rfl) (by kernel_rfl) (by kernel_rfl) (fun _ _ _ h => h) (.inl ⟨by kernel_rfl, fun w' => by go_simp⟩) ?_
              refine wpAny_done (by kernel_rfl) ?_ _
              try go_simp
              clear x0 x1 x2 y0 y1 y2
              go_wp2
              go_ret
              exact ⟨false, rfl, ⟨fun h => (by cases h), fun h => absurd h HX.out⟩, HBq.out.drew⟩
            · go_simp
              refine hK _ _ ?_
              clear hK K
              refine wpAny_ready (rs := [16]) (by kernel_rfl) (by simp) ?_
              refine AllReady.cons rfl (fun K hK => ?_) AllReady.nil
              go_simp
              refine hK _ _ ?_
              clear hK K
              refine M.takeD (i := 22) (v := .bool true) 76 rfl rfl (by kernel_rfl) (by kernel_rfl) (by kernel_rfl) (fun _ _ _ h => h) (.inl ⟨by kernel_rfl, fun w' => by go_simp⟩) ?_
              refine M.takeD (i := 23) (v := .bool true) 77 rfl rfl (by kernel_rfl) (by kernel_rfl) (by kernel_rfl) (fun _ _ _ h => h) (.inl ⟨by kernel_rfl, fun w' => by go_simp⟩) ?_
              refine wpAny_done (by kernel_rfl) ?_ _
              try go_simp
              clear x0 x1 x2 y0 y1 y2
              go_wp2
              go_ret
              exact ⟨false, rfl, ⟨fun h => (by cases h), fun h => absurd h HX.out⟩, HBq.out.drew⟩
end Go.Proofs.Ytpokcbcffijheab
