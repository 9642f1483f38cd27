/-
  What l05Mark and MarksRight of the specification do.
-/
import Derived.Test.YtpokcbcffijheabTowRight
import Derived.Test.YtpokcbcffijheabSIs
import Derived.Test.YtpokcbcffijheabWide
import Derived.Test.YtpokcbcffijheabIFindM
import Derived.BigQuiet
import Derived.Deep.RegionWith
import Derived.Deep.QuietTactic
namespace Go.Proofs.Ytpokcbcffijheab
open Go.RowKit

set_option maxRecDepth 100000 in
set_option maxHeartbeats 1600000 in
theorem sMark_any (w : World) (a : Option Addr) (len cap : Nat) (ms : List M.MkD) (id : Int) (h : M.Mks w a len cap ms) :
    Calls Try.prog 56 #[.slice a len cap, .int .i64 id] w fun e w' => e = .returned (.int .i64 (M.idx ms id)) ∧ w = w' := by
  have hlm : len ≤ 9223372036854775807 := by obtain ⟨_, h1, h2, _⟩ := h; unfold maxLen at h2; omega
  have HFL : Hid (len = ms.length) := h.1
  have HM := M.hidm h
  clear h
  go_enter Try.func56, Try.ntmps56
  go_wp2
  go_loop [5] (fun i => ∃ k : Nat, i = .int .i64 k ∧ k ≤ len ∧ Hid (∀ t (h : t < ms.length), t < k → ms[t].id ≠ id)) (fun i => len - (intOf i).toNat)
  case atStart => exact ⟨0, rfl, Nat.zero_le _, fun t _ h => absurd h (Nat.not_lt_zero _)⟩
  case round =>
    obtain ⟨k, rfl, hk, HG⟩ := hrel
    by_cases hlt : k < len
    · have hfl := HFL.out
      have hkm : k < ms.length := by omega
      obtain ⟨-, -, -, hfa⟩ := HM.out
      obtain ⟨b, off, rfl, hat⟩ := hfa (by omega)
      have c0 := (hat k hkm).1
      have hfk := List.getElem?_eq_getElem hkm
      generalize ms[k]'hkm = m at c0 hfk
      have HFK := M.hidm hfk
      clear hfk hat hfa hfl
      by_cases e : m.id = id
      · have d0 : (m.id == id) = true := by simpa using e
        have HE : Hid (M.idx ms id = k) := by
          obtain ⟨h1, h2⟩ := List.getElem?_eq_some_iff.1 HFK.out
          exact M.idx_at h1 (by rw [h2]; exact e) HG.out
        clear e hkm
        go_wp2
        go_ret
        exact ⟨by rw [HE.out]; rfl, rfl⟩
      · have d0 : (m.id == id) = false := by simpa using e
        have HG2 : Hid (∀ t (h : t < ms.length), t < k + 1 → ms[t].id ≠ id) := fun t ht htk => by
          by_cases e2 : t = k
          · subst e2
            obtain ⟨h1, h2⟩ := List.getElem?_eq_some_iff.1 HFK.out
            rw [h2]; exact e
          · exact HG.out t ht (by omega)
        clear e hkm
        go_wp2
        go_round
        case rel => exact ⟨k + 1, by go_num, by omega, HG2⟩
        case measure => simp [intOf]; omega
    · have HE : Hid (M.idx ms id = -1) := M.idx_no fun t ht => HG.out t ht (by have := HFL.out; omega)
      go_wp2
      go_ret
      exact ⟨by rw [HE.out]; rfl, rfl⟩
theorem sMark_below (w : World) (a : Option Addr) (len cap : Nat) (ms : List M.MkD) (id : Int) (h : M.Mks w a len cap ms) :
    Calls Try.prog 56 #[.slice a len cap, .int .i64 id] w fun e w' => e = .returned (.int .i64 (M.idx ms id)) ∧ Below w.heap.size w w' :=
  (sMark_any w a len cap ms id h).mono fun _ _ ⟨he, hw⟩ => ⟨he, by rw [← hw]; exact Below.refl _ _⟩

set_option maxRecDepth 100000 in
set_option maxHeartbeats 6400000 in
theorem sMarksR_any (w : World) (a : Option Addr) (len cap : Nat) (ms : List M.MkD) (h : M.Mks w a len cap ms) :
    Calls Try.prog 25 #[.slice a len cap] w fun e w' => ∃ v : Bool, e = .returned (.bool v) ∧ (v = true ↔ M.MarksR ms) ∧ Below w.heap.size w w' := by
  have hlm : len ≤ 9223372036854775807 := by obtain ⟨_, h1, h2, _⟩ := h; unfold maxLen at h2; omega
  have hlc : len ≤ cap := h.2.1
  have HFL : Hid (len = ms.length) := h.1
  have HM := M.hidm h
  clear h
  have NO : Hid (∀ (W : World), ¬ M.MarksR ms → Below w.heap.size w W → ∃ v : Bool, Ending.returned (.bool false) = .returned (.bool v) ∧ (v = true ↔ M.MarksR ms) ∧ Below w.heap.size w W) := fun W hn hb => ⟨false, rfl, ⟨fun h => by simp at h, fun h => absurd h hn⟩, hb⟩
  by_cases h60 : 60 < len
  · have HN : Hid (¬ M.MarksR ms) := fun h => by have := h.1; have := HFL.out; omega
    have d1 : decide (60 < (len : Int)) = true := decide_eq_true (by omega)
    go_enter Try.func25, Try.ntmps25
    go_wp2
    go_ret
    exact NO.out _ HN.out (Below.refl _ _)
  have d1 : decide (60 < (len : Int)) = false := decide_eq_false (by omega)
  go_enter Try.func25, Try.ntmps25
  go_wp2
  go_loopw [3] (fun i wr => ∃ k : Nat, i = .int .i64 k ∧ k ≤ len ∧ Hid (M.MksR ms k) ∧ Hid (Below w.heap.size w wr)) (fun i _ => len - (intOf i).toNat)
  case atStart => exact ⟨0, rfl, Nat.zero_le _, M.MksR.zero ms, Below.refl _ _⟩
  case round =>
    obtain ⟨k, rfl, hk, HG, HBr⟩ := hrel
    by_cases hlt : k < len
    · have hfl := HFL.out
      have HMr := M.hidm (HM.out.below HBr.out)
      obtain ⟨-, -, -, hfa⟩ := HMr.out
      obtain ⟨b, off, rfl, hat⟩ := hfa (by omega)
      have HAT : Hid (M.MksAt wr b off ms) := hat
      obtain ⟨c0, c1, c2⟩ := hat k (by omega)
      have hfk := List.getElem?_eq_getElem (l := ms) (i := k) (by omega)
      generalize ms[k]'(by omega) = m at c0 c1 c2 hfk
      have HFK : Hid (ms[k]? = some m) := hfk
      have HP : Hid (M.Mks wr (some ⟨b, off, none⟩) k cap (ms.take k)) := HMr.out.pre (by omega)
      clear hfk hat hfa hfl
      obtain ⟨W1, hW1⟩ : ∃ W1, W1 = wr.alloc (.cells #[.int .i64 m.id, .int .i64 m.level, .int .i64 m.base] 78) := ⟨_, rfl⟩
      have HB1 : Hid (Below wr.heap.size wr W1) := by rw [hW1]; exact (Below.refl _ _).alloc (Nat.le_refl _) _
      have g0 : W1.cell? ⟨wr.heap.size, 0, none⟩ = some (.int .i64 m.id) := by rw [hW1]; exact M.bx (Below.refl _ _) 0 _ rfl
      have g1 : W1.cell? ⟨wr.heap.size, 1, none⟩ = some (.int .i64 m.level) := by rw [hW1]; exact M.bx (Below.refl _ _) 1 _ rfl
      have g2 : W1.cell? ⟨wr.heap.size, 2, none⟩ = some (.int .i64 m.base) := by rw [hW1]; exact M.bx (Below.refl _ _) 2 _ rfl
      have HW1 := M.hidm hW1
      have HX : Hid (∀ x : M.Wd W1, Below w.heap.size w x.val) := fun x => M.sm HBr.out (M.sm HB1.out x.bel)
      have C1 : Hid (∀ (x : M.Wd W1) (n lo hi : Int), Calls Try.prog 44 #[.int .i64 n, .int .i64 lo, .int .i64 hi] x.val fun e w' => e = .returned (.bool (M.isB n lo hi)) ∧ Below x.val.heap.size x.val w') := fun x n lo hi => (sIs_any n lo hi x.val).mono fun _ _ ⟨he, hw⟩ => ⟨he, by rw [← hw]; exact Below.refl _ _⟩
      have q0 := M.Wd.cell g0
      have q1 := M.Wd.cell g1
      have q2 := M.Wd.cell g2
      clear g0 g1 g2 hW1
      cases hid : M.isB m.id 1 1000000
      · have HN : Hid (¬ M.MarksR ms) := fun h => by have := h.2.mk HFK.out; unfold M.mkR at this; unfold M.isB at hid; rw [hid] at this; cases this
        go_wp2_with fail
        rw [← HW1.out]
        refine M.wp_region_wd (by kernel_rfl) (by kernel_rfl) (fun _ => ?_)
        repeat (first | go_big_quiet_skip | (go_big_quiet_want; go_big_quiet_op; first | go_big_quiet_on | (apply Exists.intro; refine ⟨fun x => ?_, ?_⟩; exact M.Wd.call x (C1.out x _ _ _); go_big_quiet_on)))
        refine wpQuiet_nil ?_
        intro w2 hw'
        have HB2 : Hid (Below w.heap.size w w2) := by obtain ⟨x, rfl⟩ := hw'; exact HX.out x
        clear hw' c0 c1 c2 q0 q1 q2 C1 HX hid
        go_wp2
        go_ret
        exact NO.out _ HN.out HB2.out
      have HID : Hid (decide (1 ≤ m.id ∧ m.id ≤ 1000000) = true) := hid
      cases hlv : M.isB m.level 0 5
      · have HN : Hid (¬ M.MarksR ms) := fun h => by have := h.2.mk HFK.out; unfold M.mkR at this; unfold M.isB at hlv; rw [HID.out, hlv] at this; cases this
        go_wp2_with fail
        rw [← HW1.out]
        refine M.wp_region_wd (by kernel_rfl) (by kernel_rfl) (fun _ => ?_)
        repeat (first | go_big_quiet_skip | (go_big_quiet_want; go_big_quiet_op; first | go_big_quiet_on | (apply Exists.intro; refine ⟨fun x => ?_, ?_⟩; exact M.Wd.call x (C1.out x _ _ _); go_big_quiet_on)))
        refine wpQuiet_nil ?_
        intro w2 hw'
        have HB2 : Hid (Below w.heap.size w w2) := by obtain ⟨x, rfl⟩ := hw'; exact HX.out x
        clear hw' c0 c1 c2 q0 q1 q2 C1 HX hid hlv
        go_wp2
        go_ret
        exact NO.out _ HN.out HB2.out
      have HLV : Hid (decide (0 ≤ m.level ∧ m.level ≤ 5) = true) := hlv
      by_cases h0 : 0 < k
      case neg =>
        have d0 : decide (0 < k) = false := decide_eq_false h0
        have HPV : Hid (∀ p : M.MkD, 0 < k → ms[k - 1]? = some p → p.id < m.id) := fun _ h => absurd h h0
        go_wp2_with fail
        rw [← HW1.out]
        refine M.wp_region_wd (by kernel_rfl) (by kernel_rfl) (fun _ => ?_)
        repeat (first | go_big_quiet_skip | (go_big_quiet_want; go_big_quiet_op; first | go_big_quiet_on | (apply Exists.intro; refine ⟨fun x => ?_, ?_⟩; exact M.Wd.call x (C1.out x _ _ _); go_big_quiet_on)))
        refine wpQuiet_nil ?_
        intro w2 hw'
        obtain ⟨x2, rfl⟩ := hw'
        have n1 := q1 x2
        have n2 := q2 x2
        have HB2 : Hid (Below w.heap.size w x2.val) := HX.out x2
        have HBr2 : Hid (Below wr.heap.size wr x2.val) := M.sm HB1.out x2.bel
        obtain ⟨w2, hw2⟩ : ∃ w2, w2 = x2.val := ⟨_, rfl⟩
        rw [← hw2] at n1 n2 HB2 HBr2
        rw [← hw2]
        clear hw2 x2 c0 c1 c2 q0 q1 q2 C1 HX hid hlv
        by_cases hl0 : m.level = 0
        · have dl : (m.level == 0) = true := by simpa using hl0
          by_cases hb0 : m.base = 0
          · have db : (m.base == 0) = true := by simpa using hb0
            have HN : Hid (M.MksR ms (k + 1)) := HG.out.next HFK.out (by unfold M.mkR; rw [HID.out, HLV.out, if_pos hl0, decide_eq_true hb0]; rfl) HPV.out
            clear hb0 hl0
            go_wp2
            go_roundw
            case rel => exact ⟨k + 1, by go_num, by omega, HN, HB2⟩
            case measure => simp [intOf]; omega
          · have db : (m.base == 0) = false := by simpa using hb0
            have HN : Hid (¬ M.MarksR ms) := fun h => by
              have := h.2.mk HFK.out
              unfold M.mkR at this
              rw [HID.out, HLV.out, if_pos hl0, decide_eq_false hb0] at this
              cases this
            clear hb0 hl0
            go_wp2
            go_ret
            exact NO.out _ HN.out HB2.out
        have dl : (m.level == 0) = false := by simpa using hl0
        have HMK : Hid (M.mkR (ms.take k) m = M.baseR (ms.take k) m) := by
          show _ = _
          unfold M.mkR
          rw [HID.out, HLV.out, if_neg hl0]
          rfl
        have hC : ∀ x : M.Wd w2, Calls Try.prog 56 #[.slice (some ⟨b, off, none⟩) k cap, .int .i64 m.base] x.val fun e w' => e = .returned (.int .i64 (M.idx (ms.take k) m.base)) ∧ Below x.val.heap.size x.val w' := fun x => sMark_below x.val _ k cap _ m.base (HP.out.below (M.sm HBr2.out x.bel))
        have CM := M.hidm hC
        have q1 := M.Wd.cell n1
        have q2 := M.Wd.cell n2
        have HX : Hid (∀ x : M.Wd w2, Below wr.heap.size wr x.val) := fun x => M.sm HBr2.out x.bel
        clear hC hl0 n2
        go_wp2_with fail
        refine M.wp_region_wd (by kernel_rfl) (by kernel_rfl) (fun _ => ?_)
        repeat (first | go_big_quiet_skip | (go_big_quiet_want; go_big_quiet_op; first | go_big_quiet_on | (apply Exists.intro; refine ⟨fun x => ?_, ?_⟩; exact M.Wd.call x (CM.out x); go_big_quiet_on)))
        refine wpQuiet_nil ?_
        intro w3 hw'
        obtain ⟨x3, rfl⟩ := hw'
        have n3 := q1 x3
        have HBr3 : Hid (Below wr.heap.size wr x3.val) := HX.out x3
        obtain ⟨w3, hw3⟩ : ∃ w3, w3 = x3.val := ⟨_, rfl⟩
        rw [← hw3] at n3 HBr3
        rw [← hw3]
        have HB3 := M.hidm (M.sm HBr.out HBr3.out)
        clear hw3 x3 q1 q2 CM HX n1
        rcases M.idx_cases (ms.take k) m.base with ⟨hx, hf⟩ | ⟨t, ht, hx, hf⟩
        · have HN : Hid (¬ M.MarksR ms) := fun h => by
            have := h.2.mk HFK.out
            rw [HMK.out] at this
            unfold M.baseR at this
            rw [hf] at this
            cases this
          rw [hx]
          have q3 := M.Wd.cell n3
          have HX : Hid (∀ x : M.Wd w3, Below w.heap.size w x.val) := fun x => M.sm HB3.out x.bel
          clear hx hf n3
          go_wp2_with fail
          refine M.wp_region_wd (by kernel_rfl) (by kernel_rfl) (fun _ => ?_)
          repeat (first | go_big_quiet_skip | (go_big_quiet_want; go_big_quiet_op; go_big_quiet_on))
          refine wpQuiet_nil ?_
          intro w4 hw'
          have HB4 : Hid (Below w.heap.size w w4) := by obtain ⟨x, rfl⟩ := hw'; exact HX.out x
          clear hw' q3
          go_wp2
          go_ret
          exact NO.out _ HN.out HB4.out
        rw [hx]
        have dn : decide ((t : Int) < 0) = false := decide_eq_false (by omega)
        have htk : t < k := by rw [List.length_take] at ht; omega
        exact absurd htk (by omega)
      have d0 : decide (0 < k) = true := decide_eq_true h0
      obtain ⟨j, hj0⟩ : ∃ j, k = j + 1 := ⟨k - 1, by omega⟩
      have HJ := M.hidm hj0
      have hj : (k : Int) - 1 = (j : Int) := by omega
      have hjl : (j : Int) < (len : Int) := by omega
      have hjm : j < ms.length := by have := HFL.out; omega
      have cj := (HAT.out j hjm).1
      have qj := M.Wd.cell ((HB1.out.cell (World.block_lt_of_cell? wr _ cj)).trans cj)
      have hgj := List.getElem?_eq_getElem hjm
      generalize ms[j]'hjm = p at cj qj hgj
      have HGJ := M.hidm hgj
      clear hj0 cj h0 hgj hjm
      by_cases hp : p.id < m.id
      · have dp : decide (m.id ≤ p.id) = false := decide_eq_false (by omega)
        have HPV : Hid (∀ p : M.MkD, 0 < k → ms[k - 1]? = some p → p.id < m.id) := fun p' _ hp' => by
          rw [HJ.out, Nat.add_sub_cancel, HGJ.out] at hp'
          obtain rfl := Option.some.inj hp'
          exact hp
        clear hp
        go_wp2_with fail
        rw [← HW1.out]
        refine M.wp_region_wd (by kernel_rfl) (by kernel_rfl) (fun _ => ?_)
        repeat (first | go_big_quiet_skip | (go_big_quiet_want; go_big_quiet_op; first | go_big_quiet_on | (apply Exists.intro; refine ⟨fun x => ?_, ?_⟩; exact M.Wd.call x (C1.out x _ _ _); go_big_quiet_on)))
        refine wpQuiet_nil ?_
        intro w2 hw'
        obtain ⟨x2, rfl⟩ := hw'
        have n1 := q1 x2
        have n2 := q2 x2
        have HB2 : Hid (Below w.heap.size w x2.val) := HX.out x2
        have HBr2 : Hid (Below wr.heap.size wr x2.val) := M.sm HB1.out x2.bel
        obtain ⟨w2, hw2⟩ : ∃ w2, w2 = x2.val := ⟨_, rfl⟩
        rw [← hw2] at n1 n2 HB2 HBr2
        rw [← hw2]
        clear hw2 x2 c0 c1 c2 q0 q1 q2 C1 HX hid hlv qj dp hj hjl
        by_cases hl0 : m.level = 0
        · have dl : (m.level == 0) = true := by simpa using hl0
          by_cases hb0 : m.base = 0
          · have db : (m.base == 0) = true := by simpa using hb0
            have HN : Hid (M.MksR ms (k + 1)) := HG.out.next HFK.out (by unfold M.mkR; rw [HID.out, HLV.out, if_pos hl0, decide_eq_true hb0]; rfl) HPV.out
            clear hb0 hl0
            go_wp2
            go_roundw
            case rel => exact ⟨k + 1, by go_num, by omega, HN, HB2⟩
            case measure => simp [intOf]; omega
          · have db : (m.base == 0) = false := by simpa using hb0
            have HN : Hid (¬ M.MarksR ms) := fun h => by
              have := h.2.mk HFK.out
              unfold M.mkR at this
              rw [HID.out, HLV.out, if_pos hl0, decide_eq_false hb0] at this
              cases this
            clear hb0 hl0
            go_wp2
            go_ret
            exact NO.out _ HN.out HB2.out
        have dl : (m.level == 0) = false := by simpa using hl0
        have HMK : Hid (M.mkR (ms.take k) m = M.baseR (ms.take k) m) := by
          show _ = _
          unfold M.mkR
          rw [HID.out, HLV.out, if_neg hl0]
          rfl
        have hC : ∀ x : M.Wd w2, Calls Try.prog 56 #[.slice (some ⟨b, off, none⟩) k cap, .int .i64 m.base] x.val fun e w' => e = .returned (.int .i64 (M.idx (ms.take k) m.base)) ∧ Below x.val.heap.size x.val w' := fun x => sMark_below x.val _ k cap _ m.base (HP.out.below (M.sm HBr2.out x.bel))
        have CM := M.hidm hC
        have q1 := M.Wd.cell n1
        have q2 := M.Wd.cell n2
        have HX : Hid (∀ x : M.Wd w2, Below wr.heap.size wr x.val) := fun x => M.sm HBr2.out x.bel
        clear hC hl0 n2
        go_wp2_with fail
        refine M.wp_region_wd (by kernel_rfl) (by kernel_rfl) (fun _ => ?_)
        repeat (first | go_big_quiet_skip | (go_big_quiet_want; go_big_quiet_op; first | go_big_quiet_on | (apply Exists.intro; refine ⟨fun x => ?_, ?_⟩; exact M.Wd.call x (CM.out x); go_big_quiet_on)))
        refine wpQuiet_nil ?_
        intro w3 hw'
        obtain ⟨x3, rfl⟩ := hw'
        have n3 := q1 x3
        have HBr3 : Hid (Below wr.heap.size wr x3.val) := HX.out x3
        obtain ⟨w3, hw3⟩ : ∃ w3, w3 = x3.val := ⟨_, rfl⟩
        rw [← hw3] at n3 HBr3
        rw [← hw3]
        have HB3 := M.hidm (M.sm HBr.out HBr3.out)
        clear hw3 x3 q1 q2 CM HX n1
        rcases M.idx_cases (ms.take k) m.base with ⟨hx, hf⟩ | ⟨t, ht, hx, hf⟩
        · have HN : Hid (¬ M.MarksR ms) := fun h => by
            have := h.2.mk HFK.out
            rw [HMK.out] at this
            unfold M.baseR at this
            rw [hf] at this
            cases this
          rw [hx]
          have q3 := M.Wd.cell n3
          have HX : Hid (∀ x : M.Wd w3, Below w.heap.size w x.val) := fun x => M.sm HB3.out x.bel
          clear hx hf n3
          go_wp2_with fail
          refine M.wp_region_wd (by kernel_rfl) (by kernel_rfl) (fun _ => ?_)
          repeat (first | go_big_quiet_skip | (go_big_quiet_want; go_big_quiet_op; go_big_quiet_on))
          refine wpQuiet_nil ?_
          intro w4 hw'
          have HB4 : Hid (Below w.heap.size w w4) := by obtain ⟨x, rfl⟩ := hw'; exact HX.out x
          clear hw' q3
          go_wp2
          go_ret
          exact NO.out _ HN.out HB4.out
        rw [hx]
        have dn : decide ((t : Int) < 0) = false := decide_eq_false (by omega)
        have htk : t < k := by rw [List.length_take] at ht; omega
        have htl : t < len := by omega
        have htI : (t : Int) < (len : Int) := by omega
        have htm : t < ms.length := by have := HFL.out; omega
        have hft : M.found (ms.take k) m.base = some ms[t] := by rw [hf, List.getElem_take]
        have ct := (HAT.out t htm).2.1
        have mt := (HBr3.out.cell (World.block_lt_of_cell? wr _ ct)).trans ct
        have q4 := M.Wd.cell mt
        have q3 := M.Wd.cell n3
        generalize ms[t]'htm = g at ct mt q4 hft
        have HX : Hid (∀ x : M.Wd w3, Below w.heap.size w x.val) := fun x => M.sm HB3.out x.bel
        clear hx hf ht htm ct mt n3
        by_cases hlv : g.level < m.level
        · have dv : decide (m.level ≤ g.level) = false := decide_eq_false (by omega)
          have HN : Hid (M.MksR ms (k + 1)) := HG.out.next HFK.out (by rw [HMK.out]; unfold M.baseR; rw [hft]; exact decide_eq_true hlv) HPV.out
          clear hlv hft
          go_wp2_with fail
          refine M.wp_region_wd (by kernel_rfl) (by kernel_rfl) (fun _ => ?_)
          repeat (first | go_big_quiet_skip | (go_big_quiet_want; go_big_quiet_op; go_big_quiet_on))
          refine wpQuiet_nil ?_
          intro w4 hw'
          have HB4 : Hid (Below w.heap.size w w4) := by obtain ⟨x, rfl⟩ := hw'; exact HX.out x
          clear hw' q3 q4
          go_wp2
          go_roundw
          case rel => exact ⟨k + 1, by go_num, by omega, HN, HB4⟩
          case measure => simp [intOf]; omega
        · have dv : decide (m.level ≤ g.level) = true := decide_eq_true (by omega)
          have HN : Hid (¬ M.MarksR ms) := fun h => by
            have := h.2.mk HFK.out
            rw [HMK.out] at this
            unfold M.baseR at this
            rw [hft] at this
            exact hlv (of_decide_eq_true this)
          clear hlv hft
          go_wp2_with fail
          refine M.wp_region_wd (by kernel_rfl) (by kernel_rfl) (fun _ => ?_)
          repeat (first | go_big_quiet_skip | (go_big_quiet_want; go_big_quiet_op; go_big_quiet_on))
          refine wpQuiet_nil ?_
          intro w4 hw'
          have HB4 : Hid (Below w.heap.size w w4) := by obtain ⟨x, rfl⟩ := hw'; exact HX.out x
          clear hw' q3 q4
          go_wp2
          go_ret
          exact NO.out _ HN.out HB4.out
      · have dp : decide (m.id ≤ p.id) = true := decide_eq_true (by omega)
        have HN : Hid (¬ M.MarksR ms) := fun h => hp (h.2.rise (k := j) (by rw [← HJ.out]; exact HFK.out) HGJ.out)
        clear hp
        go_wp2_with fail
        rw [← HW1.out]
        refine M.wp_region_wd (by kernel_rfl) (by kernel_rfl) (fun _ => ?_)
        repeat (first | go_big_quiet_skip | (go_big_quiet_want; go_big_quiet_op; first | go_big_quiet_on | (apply Exists.intro; refine ⟨fun x => ?_, ?_⟩; exact M.Wd.call x (C1.out x _ _ _); go_big_quiet_on)))
        refine wpQuiet_nil ?_
        intro w2 hw'
        have HB2 : Hid (Below w.heap.size w w2) := by obtain ⟨x, rfl⟩ := hw'; exact HX.out x
        clear hw' c0 c1 c2 q0 q1 q2 C1 HX hid hlv qj dp hj hjl
        go_wp2
        go_ret
        exact NO.out _ HN.out HB2.out
    · have HT : Hid (M.MarksR ms) := by
        have hfl := HFL.out
        have : k = ms.length := by omega
        subst this
        exact ⟨by omega, HG.out⟩
      go_wp2
      go_ret
      exact ⟨true, rfl, ⟨fun _ => HT.out, fun _ => rfl⟩, HBr.out⟩
end Go.Proofs.Ytpokcbcffijheab
