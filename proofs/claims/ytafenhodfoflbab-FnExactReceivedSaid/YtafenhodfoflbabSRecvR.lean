/-
  What ReceiverRight of the specification does.
-/
import Derived.Test.YtafenhodfoflbabRows
import Derived.Test.YtafenhodfoflbabLinkBox
import Derived.WalkKit
import Derived.WalkSpells
import Derived.WalkLawsBesides
namespace Go.Proofs.Ytafenhodfoflbab
open Go.RowKit

theorem M.rcv_no {ss : List ByteArray} {x : Int} (h : ¬ (ss.length ≤ 300 ∧ (x = (ss.length : Int) ∨ x = -1 ∧ ss.length ≠ 0) ∧ ∀ i s, ss[i]? = some s → M.okAt ss.length x i s)) : M.rcvR ss x = false := by
  cases hr : M.rcvR ss x
  · rfl
  · exact absurd (M.rcvR_iff.1 hr) h

set_option maxRecDepth 100000 in
set_option maxHeartbeats 1600000 in
theorem sRecvR_any (w : World) (a : Option Addr) (n c : Nat) (ss : List ByteArray) (x : Int) (h : M.Strs w a n c ss) (hok : ∀ s ∈ ss, s.size ≤ maxLen) :
    Calls Try.prog 24 #[.agg #[.slice a n c, .int .i64 x]] w fun e w' => e = .returned (.bool (M.rcvR ss x)) ∧ Below w.heap.size w w' := by
  have hlm : n ≤ 9223372036854775807 := by obtain ⟨_, h1, h2, _⟩ := h; unfold maxLen at h2; omega
  have HB : Hid (∀ o, Below w.heap.size w (w.alloc o)) := fun o => (Below.refl _ _).alloc (Nat.le_refl _) _
  have HN : Hid (n = ss.length) := h.1
  have HF := M.hl h
  have HOK := M.hl hok
  clear h hok
  by_cases h3 : 300 < n
  · rw [M.rcv_no (fun h => by have := HN.out; have := h.1; omega)]
    have d3 : decide (300 < (n : Int)) = true := decide_eq_true (by omega)
    go_enter Try.func24, Try.ntmps24
    go_wp2
    go_ret
    exact ⟨rfl, HB.out _⟩
  have d3 : decide (300 < (n : Int)) = false := decide_eq_false (by omega)
  by_cases hw : x = (n : Int) ∨ x = -1 ∧ n ≠ 0
  case neg =>
    rw [M.rcv_no (fun h => hw (by have := HN.out; have := h.2.1; omega))]
    have d4 : ((x : Int) != (n : Int)) = true := by rw [bne_iff_ne]; intro e; exact hw (.inl e)
    have d4' : ((x : Int) == (n : Int)) = false := by rw [beq_eq_false_iff_ne]; intro e; exact hw (.inl e)
    by_cases hx : x = -1
    · subst hx
      have hn : n = 0 := by
        by_cases hn : n = 0
        · exact hn
        · exact absurd (.inr ⟨rfl, hn⟩) hw
      subst hn
      clear hw d4 d4'
      go_enter Try.func24, Try.ntmps24
      go_wp2
      go_ret
      exact ⟨rfl, HB.out _⟩
    · have d5 : ((x : Int) != -1) = true := by rw [bne_iff_ne]; exact hx
      have d5' : ((x : Int) == -1) = false := by rw [beq_eq_false_iff_ne]; exact hx
      clear hw hx
      go_enter Try.func24, Try.ntmps24
      go_wp2
      go_ret
      exact ⟨rfl, HB.out _⟩
  have HW := M.hl hw
  have HBr0 : Hid (∀ o, M.Strs (w.alloc o) a n c ss) := fun o => HF.out.below (HB.out o)
  obtain ⟨r, hr⟩ : ∃ r, r = M.rcvR ss x := ⟨_, rfl⟩
  rw [← hr]
  have HR : Hid (r = M.rcvR ss x) := hr
  clear hr
  have NO : Hid (∀ k s, ss[k]? = some s → ¬ M.okAt n x k s → r = false) := fun k s hk hs => by rw [HR.out]; exact M.rcv_no (fun h => hs (by have := h.2.2 k s hk; rwa [← HN.out] at this))
  have YES : Hid ((∀ i s, ss[i]? = some s → M.okAt n x i s) → r = true) := fun hs => by
    rw [HR.out]
    have hn := HN.out
    subst hn
    exact M.rcvR_iff.2 ⟨by omega, HW.out, hs⟩
  have GO : Hid (∀ (e : Value) (o : Obj) (Q : Value → Prop), e = .bool r → Ending.returned e = .returned (.bool r) ∧ Below w.heap.size w (w.alloc o)) := fun e o Q he => ⟨by rw [he], HB.out o⟩
  rcases hw with rfl | ⟨rfl, hn0⟩
  · have d4 : ((n : Int) != (n : Int)) = false := by simp
    have dm : ((n : Int) != -1) = true := by rw [bne_iff_ne]; omega
    have dm' : ((n : Int) == -1) = false := by rw [beq_eq_false_iff_ne]; omega
    clear HW HF HR
    go_enter Try.func24, Try.ntmps24
    go_wp2
    go_loop [4] (fun i => ∃ k : Nat, i = .int .i64 k ∧ k ≤ n ∧ Hid (∀ j s, j < k → ss[j]? = some s → M.okAt n (n : Int) j s)) (fun i => n - (intOf i).toNat)
    case atStart => exact ⟨0, rfl, Nat.zero_le _, fun j s hj => by omega⟩
    case round =>
      obtain ⟨k, rfl, hk, HA⟩ := hrel
      by_cases hlt : k < n
      · obtain ⟨hfl, _, _, hfa⟩ := HBr0.out (.cells #[.slice a n c, .int .i64 (n : Int)] 32)
        obtain ⟨b, off, rfl, hat⟩ := hfa (by omega)
        have c0 := hat k (by omega)
        have hfk := List.getElem?_eq_getElem (l := ss) (i := k) (by omega)
        generalize ss[k]'(by omega) = s at c0 hfk
        have HFK := M.hl hfk
        have o1 : s.size ≤ 9223372036854775807 := by have := HOK.out s (List.mem_of_getElem? hfk); unfold maxLen at this; omega
        clear hfk hat hfa hfl
        by_cases h64 : s.size = 64
        · have HA2 : Hid (∀ j s, j < k + 1 → ss[j]? = some s → M.okAt n (n : Int) j s) := fun j s' hj hs' => by
            by_cases e : j = k
            · subst e
              obtain rfl := Option.some.inj (HFK.out.symm.trans hs')
              exact ⟨by omega, fun h => by omega⟩
            · exact HA.out j s' (by omega) hs'
          have d6 : decide (64 < (s.size : Int)) = false := decide_eq_false (by omega)
          have d7 : decide ((s.size : Int) < 64) = false := decide_eq_false (by omega)
          clear h64
          go_wp2
          go_round
          case rel => exact ⟨k + 1, by go_num, by omega, HA2⟩
          case measure => simp [intOf]; omega
        · have HE : Hid (r = false) := NO.out k s HFK.out (fun h => by
            have h1 := h.1
            have := h.2 (by omega)
            omega)
          by_cases h65 : 64 < s.size
          · have d6 : decide (64 < (s.size : Int)) = true := decide_eq_true (by omega)
            clear h64 h65
            go_wp2
            go_ret
            exact ⟨by rw [HE.out]; rfl, HB.out _⟩
          · have d6 : decide (64 < (s.size : Int)) = false := decide_eq_false (by omega)
            have d7 : decide ((s.size : Int) < 64) = true := decide_eq_true (by omega)
            clear h64 h65
            by_cases hk1 : k < n - 1
            · have d8 : decide ((k : Int) < (n : Int) - 1) = true := decide_eq_true (by omega)
              go_wp2
              go_ret
              exact ⟨by rw [HE.out]; rfl, HB.out _⟩
            · have d8 : decide ((k : Int) < (n : Int) - 1) = false := decide_eq_false (by omega)
              go_wp2
              go_ret
              exact ⟨by rw [HE.out]; rfl, HB.out _⟩
      · have HE : Hid (r = true) := YES.out (fun i s hi => HA.out i s (by have := (List.getElem?_eq_some_iff.1 hi).1; have := HN.out; omega) hi)
        go_wp2
        go_ret
        exact ⟨by rw [HE.out]; rfl, HB.out _⟩
  · have d4 : ((-1 : Int) != (n : Int)) = true := by rw [bne_iff_ne]; omega
    have d4' : ((-1 : Int) == (n : Int)) = false := by rw [beq_eq_false_iff_ne]; omega
    have d5 : ((n : Int) == 0) = false := by rw [beq_eq_false_iff_ne]; omega
    clear HW HF HR
    go_enter Try.func24, Try.ntmps24
    go_wp2
    go_loop [4] (fun i => ∃ k : Nat, i = .int .i64 k ∧ k ≤ n ∧ Hid (∀ j s, j < k → ss[j]? = some s → M.okAt n (-1) j s)) (fun i => n - (intOf i).toNat)
    case atStart => exact ⟨0, rfl, Nat.zero_le _, fun j s hj => by omega⟩
    case round =>
      obtain ⟨k, rfl, hk, HA⟩ := hrel
      by_cases hlt : k < n
      · obtain ⟨hfl, _, _, hfa⟩ := HBr0.out (.cells #[.slice a n c, .int .i64 (-1)] 32)
        obtain ⟨b, off, rfl, hat⟩ := hfa (by omega)
        have c0 := hat k (by omega)
        have hfk := List.getElem?_eq_getElem (l := ss) (i := k) (by omega)
        generalize ss[k]'(by omega) = s at c0 hfk
        have HFK := M.hl hfk
        have o1 : s.size ≤ 9223372036854775807 := by have := HOK.out s (List.mem_of_getElem? hfk); unfold maxLen at this; omega
        clear hfk hat hfa hfl
        by_cases h65 : 64 < s.size
        · have HE : Hid (r = false) := NO.out k s HFK.out (fun h => by have := h.1; omega)
          have d6 : decide (64 < (s.size : Int)) = true := decide_eq_true (by omega)
          clear h65
          go_wp2
          go_ret
          exact ⟨by rw [HE.out]; rfl, HB.out _⟩
        have d6 : decide (64 < (s.size : Int)) = false := decide_eq_false (by omega)
        by_cases h64 : s.size < 64
        · have d7 : decide ((s.size : Int) < 64) = true := decide_eq_true (by omega)
          by_cases hk1 : k < n - 1
          · have HE : Hid (r = false) := NO.out k s HFK.out (fun h => (h.2 h64).1 hk1)
            have d8 : decide ((k : Int) < (n : Int) - 1) = true := decide_eq_true (by omega)
            clear h64 h65
            go_wp2
            go_ret
            exact ⟨by rw [HE.out]; rfl, HB.out _⟩
          · have HA2 : Hid (∀ j s, j < k + 1 → ss[j]? = some s → M.okAt n (-1) j s) := fun j s' hj hs' => by
              by_cases e : j = k
              · subst e
                obtain rfl := Option.some.inj (HFK.out.symm.trans hs')
                exact ⟨by omega, fun h => ⟨hk1, rfl⟩⟩
              · exact HA.out j s' (by omega) hs'
            have d8 : decide ((k : Int) < (n : Int) - 1) = false := decide_eq_false (by omega)
            clear h64 h65
            go_wp2
            go_round
            case rel => exact ⟨k + 1, by go_num, by omega, HA2⟩
            case measure => simp [intOf]; omega
        · have HA2 : Hid (∀ j s, j < k + 1 → ss[j]? = some s → M.okAt n (-1) j s) := fun j s' hj hs' => by
            by_cases e : j = k
            · subst e
              obtain rfl := Option.some.inj (HFK.out.symm.trans hs')
              exact ⟨by omega, fun h => absurd h h64⟩
            · exact HA.out j s' (by omega) hs'
          have d7 : decide ((s.size : Int) < 64) = false := decide_eq_false (by omega)
          clear h64 h65
          go_wp2
          go_round
          case rel => exact ⟨k + 1, by go_num, by omega, HA2⟩
          case measure => simp [intOf]; omega
      · have HE : Hid (r = true) := YES.out (fun i s hi => HA.out i s (by have := (List.getElem?_eq_some_iff.1 hi).1; have := HN.out; omega) hi)
        go_wp2
        go_ret
        exact ⟨by rw [HE.out]; rfl, HB.out _⟩
end Go.Proofs.Ytafenhodfoflbab
