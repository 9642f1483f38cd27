/-
  What MarksRight of the program does.
-/
import Derived.Test.YtpokcbcffijheabIMarkR
import Derived.BigQuiet
import Derived.Deep.RegionWith
import Derived.Deep.QuietTactic
namespace Go.Proofs.Ytpokcbcffijheab
open Go.RowKit

set_option maxRecDepth 100000 in
set_option maxHeartbeats 3200000 in
theorem iMarksR_any (w : World) (a : Option Addr) (len cap : Nat) (ms : List M.MkD) (h : M.Mks w a len cap ms) :
    Calls Try.prog 32 #[.slice a len cap] w fun e w' => ∃ v : Bool, e = .returned (.bool v) ∧ (v = true ↔ M.MarksR ms) ∧ Below w.heap.size w w' := by
  have hlm : len ≤ 9223372036854775807 := by obtain ⟨_, h1, h2, _⟩ := h; unfold maxLen at h2; omega
  have hlc : len ≤ cap := h.2.1
  have HFL : Hid (len = ms.length) := h.1
  have HM := M.hidm h
  clear h
  have NO : Hid (∀ (W : World), ¬ M.MarksR ms → Below w.heap.size w W → ∃ v : Bool, Ending.returned (.bool false) = .returned (.bool v) ∧ (v = true ↔ M.MarksR ms) ∧ Below w.heap.size w W) := fun W hn hb => ⟨false, rfl, ⟨fun h => by simp at h, fun h => absurd h hn⟩, hb⟩
  by_cases h60 : 60 < len
  · have HN : Hid (¬ M.MarksR ms) := fun h => by have := h.1; have := HFL.out; omega
    have d1 : decide (60 < (len : Int)) = true := decide_eq_true (by omega)
    go_enter Try.func32, Try.ntmps32
    go_wp2
    go_ret
    exact NO.out _ HN.out (Below.refl _ _)
  have d1 : decide (60 < (len : Int)) = false := decide_eq_false (by omega)
  go_enter Try.func32, Try.ntmps32
  go_wp2
  go_loopw [10] (fun i wr => ∃ k : Nat, i = .int .i64 k ∧ k ≤ len ∧ Hid (M.MksR ms k) ∧ Hid (Below w.heap.size w wr)) (fun i _ => len - (intOf i).toNat)
  case atStart => exact ⟨0, rfl, Nat.zero_le _, M.MksR.zero ms, Below.refl _ _⟩
  case round =>
    obtain ⟨k, rfl, hk, HG, HBr⟩ := hrel
    by_cases hlt : k < len
    · have hfl := HFL.out
      have HMr := M.hidm (HM.out.below HBr.out)
      obtain ⟨-, -, -, hfa⟩ := HMr.out
      obtain ⟨b, off, rfl, hat⟩ := hfa (by omega)
      have HAT : Hid (M.MksAt wr b off ms) := hat
      obtain ⟨c0, c1, c2⟩ := hat k (by omega)
      have hfk := List.getElem?_eq_getElem (l := ms) (i := k) (by omega)
      generalize ms[k]'(by omega) = m at c0 c1 c2 hfk
      have HFK : Hid (ms[k]? = some m) := hfk
      have HP : Hid (M.Mks wr (some ⟨b, off, none⟩) k cap (ms.take k)) := HMr.out.pre (by omega)
      clear hfk hat hfa hfl
      obtain ⟨W1, hW1⟩ : ∃ W1, W1 = wr.alloc (.cells #[.int .i64 m.id, .int .i64 m.level, .int .i64 m.base] 78) := ⟨_, rfl⟩
      have HB1 : Hid (Below wr.heap.size wr W1) := by rw [hW1]; exact (Below.refl _ _).alloc (Nat.le_refl _) _
      have g0 : W1.cell? ⟨wr.heap.size, 0, none⟩ = some (.int .i64 m.id) := by rw [hW1]; exact M.bx (Below.refl _ _) 0 _ rfl
      have g1 : W1.cell? ⟨wr.heap.size, 1, none⟩ = some (.int .i64 m.level) := by rw [hW1]; exact M.bx (Below.refl _ _) 1 _ rfl
      have g2 : W1.cell? ⟨wr.heap.size, 2, none⟩ = some (.int .i64 m.base) := by rw [hW1]; exact M.bx (Below.refl _ _) 2 _ rfl
      have HW1 := M.hidm hW1
      have HX : Hid (∀ x : M.Wd W1, Below w.heap.size w x.val) := fun x => M.sm HBr.out (M.sm HB1.out x.bel)
      have hC : ∀ x : M.Wd W1, Calls Try.prog 58 #[M.mval m, .func (.func 59) #[.slice (some ⟨b, off, none⟩) k cap] #[]] x.val fun e w' => e = .returned (.bool (M.mkR (ms.take k) m)) ∧ Below x.val.heap.size x.val w' := fun x => iMarkR_any m x.val _ k cap _ (HP.out.below (M.sm HB1.out x.bel)) HG.out.asc (by omega)
      unfold M.mval at hC
      have CC := M.hidm hC
      have q0 := M.Wd.cell g0
      have q1 := M.Wd.cell g1
      have q2 := M.Wd.cell g2
      clear hC g0 g1 g2 hW1
      cases hr : M.mkR (ms.take k) m
      · rw [hr] at CC
        have HN : Hid (¬ M.MarksR ms) := fun h => by have := h.2.mk HFK.out; rw [hr] at this; cases this
        clear hr
        by_cases h0 : 0 < k
        case neg =>
          have d0 : decide (0 < k) = false := decide_eq_false h0
          go_wp2_with fail
          rw [← HW1.out]
          refine M.wp_region_wd (by kernel_rfl) (by kernel_rfl) (fun _ => ?_)
          repeat (first | go_big_quiet_skip | (go_big_quiet_want; go_big_quiet_op; first | go_big_quiet_on | (apply Exists.intro; refine ⟨fun x => ?_, ?_⟩; exact M.Wd.call x (CC.out x); go_big_quiet_on)))
          refine wpQuiet_nil ?_
          intro w2 hw'
          have HB2 : Hid (Below w.heap.size w w2) := by obtain ⟨x, rfl⟩ := hw'; exact HX.out x
          clear hw' c0 c1 c2 q0 q1 q2 CC HX
          go_wp2
          go_ret
          exact NO.out _ HN.out HB2.out
        have d0 : decide (0 < k) = true := decide_eq_true h0
        obtain ⟨j, hj0⟩ : ∃ j, k = j + 1 := ⟨k - 1, by omega⟩
        have hj : (k : Int) - 1 = (j : Int) := by omega
        have hjl : (j : Int) < (len : Int) := by omega
        have cj := (HAT.out j (by have := HFL.out; omega)).1
        have qj := M.Wd.cell ((HB1.out.cell (World.block_lt_of_cell? wr _ cj)).trans cj)
        generalize (ms[j]'(by have := HFL.out; omega)).id = pid at cj qj
        clear hj0 cj h0
        cases dp : decide (m.id ≤ pid)
        · clear HAT HFK HP HMr
          go_wp2_with fail
          rw [← HW1.out]
          refine M.wp_region_wd (by kernel_rfl) (by kernel_rfl) (fun _ => ?_)
          repeat (first | go_big_quiet_skip | (go_big_quiet_want; go_big_quiet_op; first | go_big_quiet_on | (apply Exists.intro; refine ⟨fun x => ?_, ?_⟩; exact M.Wd.call x (CC.out x); go_big_quiet_on)))
          refine wpQuiet_nil ?_
          intro w2 hw'
          have HB2 : Hid (Below w.heap.size w w2) := by obtain ⟨x, rfl⟩ := hw'; exact HX.out x
          clear hw' c0 c1 c2 q0 q1 q2 CC HX qj dp
          go_wp2
          go_ret
          exact NO.out _ HN.out HB2.out
        · clear HAT HFK HP HMr
          go_wp2_with fail
          rw [← HW1.out]
          refine M.wp_region_wd (by kernel_rfl) (by kernel_rfl) (fun _ => ?_)
          repeat (first | go_big_quiet_skip | (go_big_quiet_want; go_big_quiet_op; first | go_big_quiet_on | (apply Exists.intro; refine ⟨fun x => ?_, ?_⟩; exact M.Wd.call x (CC.out x); go_big_quiet_on)))
          refine wpQuiet_nil ?_
          intro w2 hw'
          have HB2 : Hid (Below w.heap.size w w2) := by obtain ⟨x, rfl⟩ := hw'; exact HX.out x
          clear hw' c0 c1 c2 q0 q1 q2 CC HX qj dp
          go_wp2
          go_ret
          exact NO.out _ HN.out HB2.out
      rw [hr] at CC
      have HR := M.hidm hr
      clear hr
      by_cases h0 : 0 < k
      case neg =>
        have d0 : decide (0 < k) = false := decide_eq_false h0
        have HN : Hid (M.MksR ms (k + 1)) := HG.out.next HFK.out HR.out (fun _ h => absurd h h0)
        go_wp2_with fail
        rw [← HW1.out]
        refine M.wp_region_wd (by kernel_rfl) (by kernel_rfl) (fun _ => ?_)
        repeat (first | go_big_quiet_skip | (go_big_quiet_want; go_big_quiet_op; first | go_big_quiet_on | (apply Exists.intro; refine ⟨fun x => ?_, ?_⟩; exact M.Wd.call x (CC.out x); go_big_quiet_on)))
        refine wpQuiet_nil ?_
        intro w2 hw'
        have HB2 : Hid (Below w.heap.size w w2) := by obtain ⟨x, rfl⟩ := hw'; exact HX.out x
        clear hw' c0 c1 c2 q0 q1 q2 CC HX
        go_wp2
        go_roundw
        case rel => exact ⟨k + 1, by go_num, by omega, HN, HB2⟩
        case measure => simp [intOf]; omega
      have d0 : decide (0 < k) = true := decide_eq_true h0
      obtain ⟨j, hj0⟩ : ∃ j, k = j + 1 := ⟨k - 1, by omega⟩
      have HJ := M.hidm hj0
      have hj : (k : Int) - 1 = (j : Int) := by omega
      have hjl : (j : Int) < (len : Int) := by omega
      have hjm : j < ms.length := by have := HFL.out; omega
      have cj := (HAT.out j hjm).1
      have qj := M.Wd.cell ((HB1.out.cell (World.block_lt_of_cell? wr _ cj)).trans cj)
      have hgj := List.getElem?_eq_getElem hjm
      generalize ms[j]'hjm = p at cj qj hgj
      have HGJ := M.hidm hgj
      clear hj0 cj h0 hgj hjm
      by_cases hp : p.id < m.id
      · have dp : decide (m.id ≤ p.id) = false := decide_eq_false (by omega)
        have HN : Hid (M.MksR ms (k + 1)) := HG.out.next HFK.out HR.out (fun p' _ hp' => by
          rw [HJ.out, Nat.add_sub_cancel, HGJ.out] at hp'
          obtain rfl := Option.some.inj hp'
          exact hp)
        clear hp
        go_wp2_with fail
        rw [← HW1.out]
        refine M.wp_region_wd (by kernel_rfl) (by kernel_rfl) (fun _ => ?_)
        repeat (first | go_big_quiet_skip | (go_big_quiet_want; go_big_quiet_op; first | go_big_quiet_on | (apply Exists.intro; refine ⟨fun x => ?_, ?_⟩; exact M.Wd.call x (CC.out x); go_big_quiet_on)))
        refine wpQuiet_nil ?_
        intro w2 hw'
        have HB2 : Hid (Below w.heap.size w w2) := by obtain ⟨x, rfl⟩ := hw'; exact HX.out x
        clear hw' c0 c1 c2 q0 q1 q2 CC HX qj dp hj hjl
        go_wp2
        go_roundw
        case rel => exact ⟨k + 1, by go_num, by omega, HN, HB2⟩
        case measure => simp [intOf]; omega
      · have dp : decide (m.id ≤ p.id) = true := decide_eq_true (by omega)
        have HN : Hid (¬ M.MarksR ms) := fun h => hp (h.2.rise (k := j) (by rw [← HJ.out]; exact HFK.out) HGJ.out)
        clear hp
        go_wp2_with fail
        rw [← HW1.out]
        refine M.wp_region_wd (by kernel_rfl) (by kernel_rfl) (fun _ => ?_)
        repeat (first | go_big_quiet_skip | (go_big_quiet_want; go_big_quiet_op; first | go_big_quiet_on | (apply Exists.intro; refine ⟨fun x => ?_, ?_⟩; exact M.Wd.call x (CC.out x); go_big_quiet_on)))
        refine wpQuiet_nil ?_
        intro w2 hw'
        have HB2 : Hid (Below w.heap.size w w2) := by obtain ⟨x, rfl⟩ := hw'; exact HX.out x
        clear hw' c0 c1 c2 q0 q1 q2 CC HX qj dp hj hjl
        go_wp2
        go_ret
        exact NO.out _ HN.out HB2.out
    · have HT : Hid (M.MarksR ms) := by
        have hfl := HFL.out
        have : k = ms.length := by omega
        subst this
        exact ⟨by omega, HG.out⟩
      go_wp2
      go_ret
      exact ⟨true, rfl, ⟨fun _ => HT.out, fun _ => rfl⟩, HBr.out⟩
end Go.Proofs.Ytpokcbcffijheab
