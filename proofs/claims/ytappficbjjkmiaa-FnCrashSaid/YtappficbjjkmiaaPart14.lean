/-
  What l02Is of the specification does.
-/
import Derived.Test.YtappficbjjkmiaaRows
import Derived.Test.YtappficbjjkmiaaPart6
import Derived.WalkKit
import Derived.WalkSpells
import Derived.WalkLawsBesides
namespace Go.Proofs.Ytappficbjjkmiaa
open Go.RowKit

set_option maxHeartbeats 400000 in
theorem sIs_any (n lo hi : Int) (w : World) :
    Calls Try.prog 64 #[.int .i64 n, .int .i64 lo, .int .i64 hi] w fun e w' => e = .returned (.bool (decide (lo ≤ n ∧ n ≤ hi))) ∧ w = w' := by
  by_cases ha : lo ≤ n
  · by_cases hb : n ≤ hi
    · have hE : Hid (decide (lo ≤ n ∧ n ≤ hi) = true) := decide_eq_true ⟨ha, hb⟩
      have d1 : decide (lo ≤ n) = true := decide_eq_true ha
      have d2 : decide (n ≤ hi) = true := decide_eq_true hb
      go_enter Try.func64, Try.ntmps64
      go_wp2
      go_ret
      exact ⟨by first | rfl | (rw [hE.out]; rfl), rfl⟩
    · have hE : Hid (decide (lo ≤ n ∧ n ≤ hi) = false) := decide_eq_false (fun h => hb h.2)
      have d1 : decide (lo ≤ n) = true := decide_eq_true ha
      have d2 : decide (n ≤ hi) = false := decide_eq_false hb
      go_enter Try.func64, Try.ntmps64
      go_wp2
      go_ret
      exact ⟨by first | rfl | (rw [hE.out]; rfl), rfl⟩
  · have hE : Hid (decide (lo ≤ n ∧ n ≤ hi) = false) := decide_eq_false (fun h => ha h.1)
    have d1 : decide (lo ≤ n) = false := decide_eq_false ha
    go_enter Try.func64, Try.ntmps64
    go_wp2
    go_ret
    exact ⟨by first | rfl | (rw [hE.out]; rfl), rfl⟩

end Go.Proofs.Ytappficbjjkmiaa

/-
  What TapesRight of the specification does.
-/
namespace Go.Proofs.Ytappficbjjkmiaa
open Go.RowKit

theorem M.tapesR_no {ts : List M.TapeD} {t : M.TapeD} {k : Nat} (h : ts[k]? = some t) (ht : ¬ ((0 ≤ t.lab ∧ t.lab ≤ 1000000) ∧ (0 ≤ t.room ∧ t.room ≤ 300) ∧ (t.ss.length : Int) ≤ t.room ∧ (0 ≤ t.syn ∧ t.syn ≤ (t.ss.length : Int)) ∧ ∀ s ∈ t.ss, s.size = 64)) : M.tapesR ts = false := by
  cases hr : M.tapesR ts
  · rfl
  · exact absurd (M.tapeR_iff.1 ((M.tapesR_iff.1 hr).2 t (List.mem_of_getElem? h))) ht

set_option maxRecDepth 100000 in
set_option maxHeartbeats 3200000 in
theorem sTapesR_any (w : World) (a : Option Addr) (n c : Nat) (ts : List M.TapeD) (h : M.Tps w a n c ts) (hok : ∀ t ∈ ts, M.tok t) :
    Calls Try.prog 20 #[.slice a n c] w fun e w' => e = .returned (.bool (M.tapesR ts)) ∧ Below w.heap.size w w' := by
  have hlm : n ≤ 9223372036854775807 := h.max
  have HF := M.hl h
  have HOK := M.hl hok
  have HN : Hid (n = ts.length) := h.1
  clear h hok
  by_cases h1 : 1 ≤ n
  case neg =>
    have HE : Hid (M.tapesR ts = false) := by show _ = _; unfold M.tapesR; rw [decide_eq_false (by have := HN.out; omega)]; rfl
    rw [HE.out]
    have d1 : decide ((n : Int) < 1) = true := decide_eq_true (by omega)
    clear h1
    go_enter Try.func20, Try.ntmps20
    go_wp2
    go_ret
    exact ⟨rfl, Below.refl _ _⟩
  have d1 : decide ((n : Int) < 1) = false := decide_eq_false (by omega)
  by_cases h8 : n ≤ 8
  case neg =>
    have HE : Hid (M.tapesR ts = false) := by show _ = _; unfold M.tapesR; rw [decide_eq_false (by have := HN.out; omega)]; rfl
    rw [HE.out]
    have d2 : decide (8 < (n : Int)) = true := decide_eq_true (by omega)
    clear h1 h8
    go_enter Try.func20, Try.ntmps20
    go_wp2
    go_ret
    exact ⟨rfl, Below.refl _ _⟩
  have d2 : decide (8 < (n : Int)) = false := decide_eq_false (by omega)
  have CIS : Hid (∀ (v lo hi : Int) (W : World) (u : Bool), decide (lo ≤ v ∧ v ≤ hi) = u → Calls Try.prog 64 #[.int .i64 v, .int .i64 lo, .int .i64 hi] W fun e w' => e = .returned (.bool u) ∧ W = w') := fun v lo hi W u hu => by rw [← hu]; exact sIs_any v lo hi W
  go_enter Try.func20, Try.ntmps20
  go_wp2
  go_loopw [3] (fun i wr => ∃ k : Nat, i = .int .i64 k ∧ k ≤ n ∧ Hid (∀ t ∈ ts.take k, M.tapeR t = true) ∧ Hid (Below w.heap.size w wr)) (fun i _ => n - (intOf i).toNat)
  case atStart => exact ⟨0, rfl, Nat.zero_le _, (fun s hs => by simp at hs), Below.refl _ _⟩
  case round =>
    obtain ⟨k, rfl, hk, HA, HBr⟩ := hrel
    by_cases hlt : k < n
    · obtain ⟨b, off, t, rfl, hfk, hat⟩ := (HF.out.below HBr.out).at hlt
      have HFK := M.hl hfk
      have ho := (HOK.out t (List.mem_of_getElem? hfk)).1
      obtain ⟨x, ss, y, z⟩ := t
      obtain ⟨c0, ⟨a', n', c', c1, hs, -⟩, c2, c3⟩ := hat
      simp only at c0 c1 c2 c3 hs
      have BA : Hid (∀ o, Below w.heap.size w (wr.alloc o)) := fun o => HBr.out.alloc HBr.out.size _
      have HS : Hid (∀ o, M.Strs (wr.alloc o) a' n' c' ss) := fun o => hs.below ((Below.refl _ _).alloc (Nat.le_refl _) _)
      have HN' : Hid (n' = ss.length) := hs.1
      have HO := M.hl ho
      have hlm' : n' ≤ 9223372036854775807 := hs.max
      clear hs hfk ho
      cases b1 : decide (0 ≤ x ∧ x ≤ 1000000)
      · have HE : Hid (M.tapesR ts = false) := M.tapesR_no HFK.out (fun h => of_decide_eq_false b1 h.1)
        have C1 := M.hl (fun W => CIS.out x 0 1000000 W false b1)
        clear b1
        go_wp2_with fail
        refine (C1.out _).mono ?_
        rintro e w2 ⟨rfl, rfl⟩
        go_wp2
        go_ret
        exact ⟨by rw [HE.out]; rfl, BA.out _⟩
      have C1 := M.hl (fun W => CIS.out x 0 1000000 W true b1)
      cases b2 : decide (0 ≤ z ∧ z ≤ 300)
      · have HE : Hid (M.tapesR ts = false) := M.tapesR_no HFK.out (fun h => of_decide_eq_false b2 h.2.1)
        have C2 := M.hl (fun W => CIS.out z 0 300 W false b2)
        clear b1 b2
        go_wp2_with fail
        refine (C1.out _).mono ?_
        rintro e w2 ⟨rfl, rfl⟩
        go_wp2_with fail
        refine (C2.out _).mono ?_
        rintro e w2 ⟨rfl, rfl⟩
        go_wp2
        go_ret
        exact ⟨by rw [HE.out]; rfl, BA.out _⟩
      have C2 := M.hl (fun W => CIS.out z 0 300 W true b2)
      have hz := of_decide_eq_true b2
      cases b3 : decide (z < (n' : Int))
      case true =>
        have HE : Hid (M.tapesR ts = false) := M.tapesR_no HFK.out (fun h => by have h1 := h.2.2.1; have := of_decide_eq_true b3; have := HN'.out; simp only at h1; omega)
        clear b1 b2
        go_wp2_with fail
        refine (C1.out _).mono ?_
        rintro e w2 ⟨rfl, rfl⟩
        go_wp2_with fail
        refine (C2.out _).mono ?_
        rintro e w2 ⟨rfl, rfl⟩
        go_wp2
        go_ret
        exact ⟨by rw [HE.out]; rfl, BA.out _⟩
      have hzn := of_decide_eq_false b3
      cases b4 : decide (0 ≤ y ∧ y ≤ (n' : Int))
      · have HE : Hid (M.tapesR ts = false) := M.tapesR_no HFK.out (fun h => by have h1 := h.2.2.2.1; have h2 := of_decide_eq_false b4; have := HN'.out; simp only at h1; omega)
        have C3 := M.hl (fun W => CIS.out y 0 (n' : Int) W false b4)
        clear b1 b2 b4
        go_wp2_with fail
        refine (C1.out _).mono ?_
        rintro e w2 ⟨rfl, rfl⟩
        go_wp2_with fail
        refine (C2.out _).mono ?_
        rintro e w2 ⟨rfl, rfl⟩
        go_wp2_with fail
        refine (C3.out _).mono ?_
        rintro e w2 ⟨rfl, rfl⟩
        go_wp2
        go_ret
        exact ⟨by rw [HE.out]; rfl, BA.out _⟩
      have C3 := M.hl (fun W => CIS.out y 0 (n' : Int) W true b4)
      have hx := of_decide_eq_true b1
      have hy := of_decide_eq_true b4
      have YES : Hid ((∀ s ∈ ss, s.size = 64) → ∀ t ∈ ts.take (k + 1), M.tapeR t = true) := fun hall => by
        rw [List.take_add_one, HFK.out]
        intro t ht
        rcases List.mem_append.1 ht with h | h
        · exact HA.out t h
        · simp at h
          rw [h]
          have := HN'.out
          exact M.tapeR_iff.2 ⟨hx, hz, by simp only; omega, by simp only; omega, hall⟩
      clear b1 b2 b4 hx hy
      go_wp2_with fail
      refine (C1.out _).mono ?_
      rintro e w2 ⟨rfl, rfl⟩
      go_wp2_with fail
      refine (C2.out _).mono ?_
      rintro e w2 ⟨rfl, rfl⟩
      go_wp2_with fail
      refine (C3.out _).mono ?_
      rintro e w2 ⟨rfl, rfl⟩
      clear c0 c1 c2 c3
      go_wp2
      go_loop [6] (fun i => ∃ j : Nat, i = .int .i64 j ∧ j ≤ n' ∧ Hid (∀ s ∈ ss.take j, s.size = 64)) (fun i => n' - (intOf i).toNat)
      case atStart => exact ⟨0, rfl, Nat.zero_le _, fun s hs => by simp at hs⟩
      case round =>
        obtain ⟨j, rfl, hj, HJ⟩ := hrel
        by_cases hjl : j < n'
        · obtain ⟨hfl, _, _, hfa⟩ := HS.out (.cells #[.int .i64 x, .slice a' n' c', .int .i64 y, .int .i64 z] 36)
          obtain ⟨b', off', rfl, hat⟩ := hfa (by omega)
          have e0 := hat j (by omega)
          have hfj := List.getElem?_eq_getElem (l := ss) (i := j) (by omega)
          generalize ss[j]'(by omega) = s at e0 hfj
          have HFJ := M.hl hfj
          have o1 : s.size ≤ 9223372036854775807 := by have := HO.out s (List.mem_of_getElem? hfj); unfold maxLen at this; omega
          clear hfj hat hfa hfl
          by_cases h64 : s.size = 64
          · have d6 : ((s.size : Int) != 64) = false := by simp [h64]
            have HJ2 : Hid (∀ s ∈ ss.take (j + 1), s.size = 64) := M.forall_snoc HJ.out HFJ.out h64
            clear h64
            go_wp2
            go_round
            case rel => exact ⟨j + 1, by go_num, by omega, HJ2⟩
            case measure => simp [intOf]; omega
          · have d6 : ((s.size : Int) != 64) = true := by rw [bne_iff_ne]; omega
            have HE : Hid (M.tapesR ts = false) := M.tapesR_no HFK.out (fun h => h64 (h.2.2.2.2 s (List.mem_of_getElem? HFJ.out)))
            clear h64
            go_wp2
            go_ret
            exact ⟨by rw [HE.out]; rfl, BA.out _⟩
        · have HA2 := M.hl (YES.out (fun s hs => HJ.out s (by rw [List.take_of_length_le (by have := HN'.out; omega)]; exact hs)))
          go_wp2
          go_roundw
          case rel => exact ⟨k + 1, by go_num, by omega, HA2, BA.out _⟩
          case measure => simp [intOf]; omega
    · have HE : Hid (M.tapesR ts = true) := by
        show _ = _
        rw [M.tapesR_iff]
        have h := HA.out
        have hn := HN.out
        rw [List.take_of_length_le (by omega)] at h
        exact ⟨⟨by omega, by omega⟩, h⟩
      go_wp2
      go_ret
      exact ⟨by rw [HE.out]; rfl, HBr.out⟩
end Go.Proofs.Ytappficbjjkmiaa
