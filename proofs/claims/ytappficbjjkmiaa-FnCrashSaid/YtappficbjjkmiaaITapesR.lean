/-
  What TapesRight of the program does, with what it looks at each tape by.
-/
import Derived.Test.YtappficbjjkmiaaRows
import Derived.Test.YtappficbjjkmiaaPart6
import Derived.WalkKit
import Derived.WalkSpells
import Derived.WalkLawsBesides
namespace Go.Proofs.Ytappficbjjkmiaa
open Go.RowKit

set_option maxRecDepth 100000 in
theorem iWrong1_any (s : ByteArray) (w : World) (hs : s.size ≤ maxLen) :
    Calls Try.prog 81 #[.string s] w fun e w' => e = .returned (.bool (decide (s.size ≠ 64))) ∧ w = w' := by
  have hs2 : s.size ≤ 9223372036854775807 := by unfold maxLen at hs; omega
  by_cases h : s.size = 64
  · rw [decide_eq_false (by omega)]
    have d : ((s.size : Int) != 64) = false := by simp [h]
    clear h
    go_enter Try.func81, Try.ntmps81
    go_wp2
    go_ret
    exact ⟨rfl, rfl⟩
  · rw [decide_eq_true (by omega)]
    have d : ((s.size : Int) != 64) = true := by rw [bne_iff_ne]; omega
    clear h
    go_enter Try.func81, Try.ntmps81
    go_wp2
    go_ret
    exact ⟨rfl, rfl⟩

set_option maxRecDepth 100000 in
set_option maxHeartbeats 1600000 in
theorem iIdxS_any (w : World) (a : Option Addr) (n c : Nat) (ss : List ByteArray) (h : M.Strs w a n c ss) (hok : ∀ s ∈ ss, s.size ≤ maxLen) :
    Calls Try.prog 88 #[.slice a n c, .func (.func 81) #[] #[]] w fun e w' => ∃ v : Int, e = .returned (.int .i64 v) ∧ -1 ≤ v ∧ v ≤ 9223372036854775807 ∧ (0 ≤ v ↔ ∃ s ∈ ss, s.size ≠ 64) ∧ w = w' := by
  have hlm : n ≤ 9223372036854775807 := h.max
  have HF := M.hl h
  have HOK := M.hl hok
  clear h hok
  go_enter Try.func88, Try.ntmps88
  go_wp2
  go_loop [8] (fun i => ∃ k : Nat, i = .int .i64 k ∧ k ≤ n ∧ Hid (∀ s ∈ ss.take k, s.size = 64)) (fun i => n - (intOf i).toNat)
  case atStart => exact ⟨0, rfl, Nat.zero_le _, fun s hs => by simp at hs⟩
  case round =>
    obtain ⟨k, rfl, hk, HA⟩ := hrel
    by_cases hlt : k < n
    · obtain ⟨hfl, _, _, hfa⟩ := HF.out
      obtain ⟨b, off, rfl, hat⟩ := hfa (by omega)
      have c0 := hat k (by omega)
      have hfk := List.getElem?_eq_getElem (l := ss) (i := k) (by omega)
      generalize ss[k]'(by omega) = s at c0 hfk
      have HFK := M.hl hfk
      have CW := M.hl (iWrong1_any s w (HOK.out s (List.mem_of_getElem? hfk)))
      clear hfk hat hfa hfl
      by_cases h64 : s.size = 64
      · rw [decide_eq_false (by omega)] at CW
        have HA2 : Hid (∀ s ∈ ss.take (k + 1), s.size = 64) := M.forall_snoc HA.out HFK.out h64
        clear h64
        go_wp2_with fail
        refine CW.out.mono ?_
        rintro e w2 ⟨rfl, rfl⟩
        go_wp2
        go_round
        case rel => exact ⟨k + 1, by go_num, by omega, HA2⟩
        case measure => simp [intOf]; omega
      · rw [decide_eq_true (by omega)] at CW
        have HX : Hid (∃ s ∈ ss, s.size ≠ 64) := ⟨s, List.mem_of_getElem? HFK.out, h64⟩
        clear h64
        go_wp2_with fail
        refine CW.out.mono ?_
        rintro e w2 ⟨rfl, rfl⟩
        go_wp2
        go_ret
        exact ⟨k, rfl, by omega, by omega, ⟨fun _ => HX.out, fun _ => by omega⟩, rfl⟩
    · have HX : Hid (¬ ∃ s ∈ ss, s.size ≠ 64) := by
        rintro ⟨s, hs, hne⟩
        have := HA.out
        rw [List.take_of_length_le (by have := HF.out.1; omega)] at this
        exact hne (this s hs)
      go_wp2
      go_ret
      exact ⟨-1, rfl, by omega, by omega, ⟨fun h => by omega, fun h => absurd h HX.out⟩, rfl⟩

set_option maxRecDepth 100000 in
theorem iConS_any (w : World) (a : Option Addr) (n c : Nat) (ss : List ByteArray) (h : M.Strs w a n c ss) (hok : ∀ s ∈ ss, s.size ≤ maxLen) :
    Calls Try.prog 80 #[.slice a n c, .func (.func 81) #[] #[]] w fun e w' => e = .returned (.bool (!(ss.all fun s => decide (s.size = 64)))) ∧ w = w' := by
  have CI := M.hl (iIdxS_any w a n c ss h hok)
  clear h hok
  go_enter Try.func80, Try.ntmps80
  go_wp2_with fail
  refine CI.out.mono ?_
  rintro e w1 ⟨v, rfl, hv1, hv2, hv, rfl⟩
  by_cases h0 : 0 ≤ v
  · have HX : Hid ((!(ss.all fun s => decide (s.size = 64))) = true) := by
      show _ = _
      obtain ⟨s, hs, hne⟩ := hv.1 h0
      rw [Bool.not_eq_true', List.all_eq_false]
      exact ⟨s, hs, by simpa using hne⟩
    clear hv
    go_wp2
    go_ret
    exact ⟨by rw [HX.out]; rfl, rfl⟩
  · have HX : Hid ((!(ss.all fun s => decide (s.size = 64))) = false) := by
      show _ = _
      rw [Bool.not_eq_false', List.all_eq_true]
      intro s hs
      by_cases e : s.size = 64
      · exact decide_eq_true e
      · exact absurd (hv.2 ⟨s, hs, e⟩) h0
    clear hv
    have d0 : decide (0 ≤ v) = false := decide_eq_false h0
    go_wp2
    go_ret
    exact ⟨by rw [HX.out]; rfl, rfl⟩

theorem M.tR_no {t : M.TapeD} (h : ¬ ((0 ≤ t.lab ∧ t.lab ≤ 1000000) ∧ (0 ≤ t.room ∧ t.room ≤ 300) ∧ (t.ss.length : Int) ≤ t.room ∧ (0 ≤ t.syn ∧ t.syn ≤ (t.ss.length : Int)) ∧ ∀ s ∈ t.ss, s.size = 64)) : M.tapeR t = false := by
  cases hr : M.tapeR t
  · rfl
  · exact absurd (M.tapeR_iff.1 hr) h

set_option maxRecDepth 100000 in
set_option maxHeartbeats 3200000 in
theorem iWrong_any (w : World) (a : Option Addr) (n c : Nat) (ss : List ByteArray) (x y z : Int) (h : M.Strs w a n c ss) (hok : ∀ s ∈ ss, s.size ≤ maxLen) :
    Calls Try.prog 56 #[.agg #[.int .i64 x, .slice a n c, .int .i64 y, .int .i64 z]] w fun e w' => e = .returned (.bool (!M.tapeR ⟨x, ss, y, z⟩)) ∧ Below w.heap.size w w' := by
  have hlm : n ≤ 9223372036854775807 := h.max
  have HN : Hid (n = ss.length) := h.1
  have HB : Hid (∀ o, Below w.heap.size w (w.alloc o)) := fun o => (Below.refl _ _).alloc (Nat.le_refl _) _
  have CC : Hid (∀ o, Calls Try.prog 80 #[.slice a n c, .func (.func 81) #[] #[]] (w.alloc o) fun e w' => e = .returned (.bool (!(ss.all fun s => decide (s.size = 64)))) ∧ w.alloc o = w') := fun o => iConS_any _ a n c ss (h.below (HB.out o)) hok
  clear h hok
  by_cases h1 : (0 ≤ x ∧ x ≤ 1000000) ∧ (0 ≤ z ∧ z ≤ 300)
  · obtain ⟨⟨x0, x1⟩, z0, z1⟩ := h1
    have d1 : decide (x < 0) = false := decide_eq_false (by omega)
    have d2 : decide (1000000 < x) = false := decide_eq_false (by omega)
    have d3 : decide (z < 0) = false := decide_eq_false (by omega)
    have d4 : decide (300 < z) = false := decide_eq_false (by omega)
    by_cases h2 : (n : Int) ≤ z ∧ 0 ≤ y ∧ y ≤ (n : Int)
    · obtain ⟨n1, y0, y1⟩ := h2
      have d5 : decide (z < (n : Int)) = false := decide_eq_false (by omega)
      have d6 : decide (y < 0) = false := decide_eq_false (by omega)
      have d7 : decide ((n : Int) < y) = false := decide_eq_false (by omega)
      have HE : Hid ((!M.tapeR ⟨x, ss, y, z⟩) = !(ss.all fun s => decide (s.size = 64))) := by
        show _ = _
        have hn := HN.out
        subst hn
        unfold M.tapeR
        simp only
        rw [decide_eq_true ⟨x0, x1⟩, decide_eq_true ⟨z0, z1⟩, decide_eq_true n1, decide_eq_true ⟨y0, y1⟩]
        rfl
      generalize (!(ss.all fun s => decide (s.size = 64))) = u at CC HE
      rw [HE.out]
      clear x0 x1 z0 z1 n1 y0 y1 HE
      go_enter Try.func56, Try.ntmps56
      go_wp2_with fail
      refine (CC.out _).mono ?_
      rintro e w2 ⟨rfl, rfl⟩
      go_wp2
      go_ret
      exact ⟨rfl, HB.out _⟩
    · have HE : Hid (M.tapeR ⟨x, ss, y, z⟩ = false) := M.tR_no (fun h => h2 (by have := HN.out; have h3 := h.2.2.1; have h4 := h.2.2.2.1; simp only at h3 h4; omega))
      rw [HE.out]
      clear HE
      by_cases h5 : (z < (n : Int))
      · have d5 : decide (z < (n : Int)) = true := decide_eq_true h5
        clear h2 h5
        go_enter Try.func56, Try.ntmps56
        go_wp2
        go_ret
        exact ⟨rfl, HB.out _⟩
      have d5 : decide (z < (n : Int)) = false := decide_eq_false h5
      by_cases h6 : y < 0
      · have d6 : decide (y < 0) = true := decide_eq_true h6
        clear h2 h5 h6
        go_enter Try.func56, Try.ntmps56
        go_wp2
        go_ret
        exact ⟨rfl, HB.out _⟩
      have d6 : decide (y < 0) = false := decide_eq_false h6
      have d7 : decide ((n : Int) < y) = true := decide_eq_true (by omega)
      clear h2 h5 h6
      go_enter Try.func56, Try.ntmps56
      go_wp2
      go_ret
      exact ⟨rfl, HB.out _⟩
  · have HE : Hid (M.tapeR ⟨x, ss, y, z⟩ = false) := M.tR_no (fun h => h1 ⟨h.1, h.2.1⟩)
    rw [HE.out]
    clear HE
    by_cases h2 : x < 0
    · have d1 : decide (x < 0) = true := decide_eq_true h2
      clear h1 h2
      go_enter Try.func56, Try.ntmps56
      go_wp2
      go_ret
      exact ⟨rfl, HB.out _⟩
    have d1 : decide (x < 0) = false := decide_eq_false h2
    by_cases h3 : 1000000 < x
    · have d2 : decide (1000000 < x) = true := decide_eq_true h3
      clear h1 h2 h3
      go_enter Try.func56, Try.ntmps56
      go_wp2
      go_ret
      exact ⟨rfl, HB.out _⟩
    have d2 : decide (1000000 < x) = false := decide_eq_false h3
    by_cases h4 : z < 0
    · have d3 : decide (z < 0) = true := decide_eq_true h4
      clear h1 h2 h3 h4
      go_enter Try.func56, Try.ntmps56
      go_wp2
      go_ret
      exact ⟨rfl, HB.out _⟩
    have d3 : decide (z < 0) = false := decide_eq_false h4
    have d4 : decide (300 < z) = true := decide_eq_true (by omega)
    clear h1 h2 h3 h4
    go_enter Try.func56, Try.ntmps56
    go_wp2
    go_ret
    exact ⟨rfl, HB.out _⟩

set_option maxRecDepth 100000 in
set_option maxHeartbeats 1600000 in
theorem iIdxT_any (w : World) (a : Option Addr) (n c : Nat) (ts : List M.TapeD) (h : M.Tps w a n c ts) (hok : ∀ t ∈ ts, M.tok t) :
    Calls Try.prog 79 #[.slice a n c, .func (.func 56) #[] #[]] w fun e w' => ∃ v : Int, e = .returned (.int .i64 v) ∧ -1 ≤ v ∧ v ≤ 9223372036854775807 ∧ (0 ≤ v ↔ ∃ t ∈ ts, M.tapeR t = false) ∧ Below w.heap.size w w' := by
  have hlm : n ≤ 9223372036854775807 := h.max
  have HF := M.hl h
  have HOK := M.hl hok
  clear h hok
  go_enter Try.func79, Try.ntmps79
  go_wp2
  go_loopw [8] (fun i wr => ∃ k : Nat, i = .int .i64 k ∧ k ≤ n ∧ Hid (∀ t ∈ ts.take k, M.tapeR t = true) ∧ Hid (Below w.heap.size w wr)) (fun i _ => n - (intOf i).toNat)
  case atStart => exact ⟨0, rfl, Nat.zero_le _, (fun s hs => by simp at hs), Below.refl _ _⟩
  case round =>
    obtain ⟨k, rfl, hk, HA, HBr⟩ := hrel
    by_cases hlt : k < n
    · obtain ⟨b, off, t, rfl, hfk, hat⟩ := (HF.out.below HBr.out).at hlt
      have HFK := M.hl hfk
      have ho := (HOK.out t (List.mem_of_getElem? hfk)).1
      obtain ⟨x, ss, y, z⟩ := t
      obtain ⟨c0, ⟨a', n', c', c1, hs, -⟩, c2, c3⟩ := hat
      simp only at c0 c1 c2 c3 hs
      have CW := M.hl (iWrong_any wr a' n' c' ss x y z hs ho)
      clear hs hfk ho
      cases hr : M.tapeR ⟨x, ss, y, z⟩
      · rw [hr] at CW
        have HX : Hid (∃ t ∈ ts, M.tapeR t = false) := ⟨_, List.mem_of_getElem? HFK.out, hr⟩
        clear hr
        go_wp2_with fail
        refine CW.out.mono ?_
        rintro e w2 ⟨rfl, hb⟩
        have HB2 : Hid (Below w.heap.size w w2) := HBr.out.trans (hb.mono HBr.out.size)
        clear hb c0 c1 c2 c3
        go_wp2
        go_ret
        exact ⟨k, rfl, by omega, by omega, ⟨fun _ => HX.out, fun _ => by omega⟩, HB2.out⟩
      · rw [hr] at CW
        have HA2 : Hid (∀ t ∈ ts.take (k + 1), M.tapeR t = true) := by
          show ∀ t ∈ _, _
          rw [List.take_add_one, HFK.out]
          intro t ht
          rcases List.mem_append.1 ht with h | h
          · exact HA.out t h
          · simp at h
            rw [h]; exact hr
        clear hr
        go_wp2_with fail
        refine CW.out.mono ?_
        rintro e w2 ⟨rfl, hb⟩
        have HB2 : Hid (Below w.heap.size w w2) := HBr.out.trans (hb.mono HBr.out.size)
        clear hb c0 c1 c2 c3
        go_wp2
        go_roundw
        case rel => exact ⟨k + 1, by go_num, by omega, HA2, HB2⟩
        case measure => simp [intOf]; omega
    · have HX : Hid (¬ ∃ t ∈ ts, M.tapeR t = false) := by
        rintro ⟨t, ht, hne⟩
        have := HA.out
        rw [List.take_of_length_le (by have := HF.out.1; omega)] at this
        rw [this t ht] at hne
        cases hne
      go_wp2
      go_ret
      exact ⟨-1, rfl, by omega, by omega, ⟨fun h => by omega, fun h => absurd h HX.out⟩, HBr.out⟩

set_option maxRecDepth 100000 in
theorem iConT_any (w : World) (a : Option Addr) (n c : Nat) (ts : List M.TapeD) (h : M.Tps w a n c ts) (hok : ∀ t ∈ ts, M.tok t) :
    Calls Try.prog 55 #[.slice a n c, .func (.func 56) #[] #[]] w fun e w' => e = .returned (.bool (!(ts.all M.tapeR))) ∧ Below w.heap.size w w' := by
  have CI := M.hl (iIdxT_any w a n c ts h hok)
  clear h hok
  go_enter Try.func55, Try.ntmps55
  go_wp2_with fail
  refine CI.out.mono ?_
  rintro e w1 ⟨v, rfl, hv1, hv2, hv, hb⟩
  have HB := M.hl hb
  clear hb
  by_cases h0 : 0 ≤ v
  · have HX : Hid ((!(ts.all M.tapeR)) = true) := by
      show _ = _
      obtain ⟨s, hs, hne⟩ := hv.1 h0
      rw [Bool.not_eq_true', List.all_eq_false]
      exact ⟨s, hs, by rw [hne]; simp⟩
    clear hv
    go_wp2
    go_ret
    exact ⟨by rw [HX.out]; rfl, HB.out⟩
  · have HX : Hid ((!(ts.all M.tapeR)) = false) := by
      show _ = _
      rw [Bool.not_eq_false', List.all_eq_true]
      intro s hs
      cases e : M.tapeR s
      · exact absurd (hv.2 ⟨s, hs, e⟩) h0
      · rfl
    clear hv
    have d0 : decide (0 ≤ v) = false := decide_eq_false h0
    go_wp2
    go_ret
    exact ⟨by rw [HX.out]; rfl, HB.out⟩

set_option maxRecDepth 100000 in
set_option maxHeartbeats 1600000 in
theorem iTapesR_any (w : World) (a : Option Addr) (n c : Nat) (ts : List M.TapeD) (h : M.Tps w a n c ts) (hok : ∀ t ∈ ts, M.tok t) :
    Calls Try.prog 14 #[.slice a n c] w fun e w' => e = .returned (.bool (M.tapesR ts)) ∧ Below w.heap.size w w' := by
  have hlm : n ≤ 9223372036854775807 := h.max
  have CC := M.hl (iConT_any w a n c ts h hok)
  have HN : Hid (n = ts.length) := h.1
  clear h hok
  by_cases h1 : 1 ≤ n
  case neg =>
    have HE : Hid (M.tapesR ts = false) := by show _ = _; unfold M.tapesR; rw [decide_eq_false (by have := HN.out; omega)]; rfl
    rw [HE.out]
    have d1 : decide (1 ≤ (n : Int)) = false := decide_eq_false (by omega)
    clear h1
    go_enter Try.func14, Try.ntmps14
    go_wp2
    go_ret
    exact ⟨rfl, Below.refl _ _⟩
  have d1 : decide (1 ≤ (n : Int)) = true := decide_eq_true (by omega)
  by_cases h8 : n ≤ 8
  case neg =>
    have HE : Hid (M.tapesR ts = false) := by show _ = _; unfold M.tapesR; rw [decide_eq_false (by have := HN.out; omega)]; rfl
    rw [HE.out]
    have d2 : decide ((n : Int) ≤ 8) = false := decide_eq_false (by omega)
    clear h1 h8
    go_enter Try.func14, Try.ntmps14
    go_wp2
    go_ret
    exact ⟨rfl, Below.refl _ _⟩
  have d2 : decide ((n : Int) ≤ 8) = true := decide_eq_true (by omega)
  have HE : Hid (M.tapesR ts = ts.all M.tapeR) := by show _ = _; unfold M.tapesR; rw [decide_eq_true (by have := HN.out; omega)]; rfl
  rw [HE.out]
  generalize ts.all M.tapeR = u at CC
  clear h1 h8 HE
  go_enter Try.func14, Try.ntmps14
  go_wp2_with fail
  refine CC.out.mono ?_
  rintro e w1 ⟨rfl, hb⟩
  have HB := M.hl hb
  clear hb
  go_wp2
  go_ret
  exact ⟨by simp, HB.out⟩
end Go.Proofs.Ytappficbjjkmiaa
