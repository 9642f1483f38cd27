/-
  What NameRight of the program and of the specification do: both tell whether a text is a name.
-/
import Derived.Test.YtpokcbcffijheabRows
import Derived.Test.YtpokcbcffijheabNameMath
import Derived.WalkKit
import Derived.WalkSpells
import Derived.WalkLawsBesides
namespace Go.Proofs.Ytpokcbcffijheab
open Go.RowKit

theorem M.hide {p : Prop} (h : p) : Hid p := h
theorem M.unhide {p : Prop} (h : Hid p) : p := h.out

set_option maxRecDepth 100000 in
set_option maxHeartbeats 1600000 in
theorem sNameRight_any (s : ByteArray) (w : World) (hs : s.size ≤ maxLen) :
    Calls Try.prog 53 #[.string s] w fun e w' => e = .returned (.bool (M.nameR s)) ∧ w = w' := by
  unfold maxLen at hs
  by_cases hlo : s.size < 1
  · have hE : Hid (M.nameR s = false) := M.nameR_short hlo
    go_enter Try.func53, Try.ntmps53
    go_wp2
    go_ret
    exact ⟨by rw [hE.out]; rfl, rfl⟩
  by_cases hhi : 20 < s.size
  · have hE : Hid (M.nameR s = false) := M.nameR_long hhi
    go_enter Try.func53, Try.ntmps53
    go_wp2
    go_ret
    exact ⟨by rw [hE.out]; rfl, rfl⟩
  go_enter Try.func53, Try.ntmps53
  go_wp2
  go_loop [3] (fun i => ∃ k : Nat, k ≤ s.size ∧ i = .int .i64 k ∧ Hid (∀ j, j < k → M.nameAt j (M.byteAt s j) = true)) (fun i => s.size - (intOf i).toNat)
  case atStart => exact ⟨0, Nat.zero_le _, rfl, fun j hj => absurd hj (Nat.not_lt_zero _)⟩
  case round =>
    obtain ⟨k, hk, rfl, hall⟩ := hrel
    by_cases hlt : k < s.size
    · have hbe := M.byteAt_eq s k hlt
      have hr := M.byteAt_range s k
      have hc0 : (0 : Int) ≤ ((s[k]'hlt).toNat : Int) := by omega
      have hc9 : ((s[k]'hlt).toNat : Int) ≤ 255 := by omega
      rcases (show (97 ≤ ((s[k]'hlt).toNat : Int) ∧ ((s[k]'hlt).toNat : Int) ≤ 122) ∨ (k ≠ 0 ∧ 48 ≤ ((s[k]'hlt).toNat : Int) ∧ ((s[k]'hlt).toNat : Int) ≤ 57) ∨ (k ≠ 0 ∧ ((s[k]'hlt).toNat : Int) = 95)
          ∨ (k = 0 ∧ ((s[k]'hlt).toNat : Int) < 97) ∨ (k = 0 ∧ 122 < ((s[k]'hlt).toNat : Int)) ∨ (k ≠ 0 ∧ ((s[k]'hlt).toNat : Int) < 48) ∨ (k ≠ 0 ∧ 57 < ((s[k]'hlt).toNat : Int) ∧ ((s[k]'hlt).toNat : Int) < 95)
          ∨ (k ≠ 0 ∧ 95 < ((s[k]'hlt).toNat : Int) ∧ ((s[k]'hlt).toNat : Int) < 97) ∨ (k ≠ 0 ∧ 122 < ((s[k]'hlt).toNat : Int)) from by omega) with ⟨ha, hb⟩ | ⟨hk0, ha, hb⟩ | ⟨hk0, ha⟩ | ⟨hk0, ha⟩ | ⟨hk0, ha⟩ | ⟨hk0, ha⟩ | ⟨hk0, ha, hb⟩ | ⟨hk0, ha, hb⟩ | ⟨hk0, ha⟩
      · have H : Hid (∀ j, j < k + 1 → M.nameAt j (M.byteAt s j) = true) := M.up_succ hall.out (M.okAt_letter (M.letter_yes (by omega) (by omega)))
        clear hbe hr hall
        go_wp2
        go_round
        case rel => exact ⟨k + 1, by omega, by go_num, H⟩
        case measure => simp [intOf]; omega
      · have H : Hid (∀ j, j < k + 1 → M.nameAt j (M.byteAt s j) = true) := M.up_succ hall.out (M.okAt_more hk0 (M.more_yes (by omega)))
        have hk1 : ((k : Int) == 0) = false := beq_eq_false_iff_ne.2 (by omega)
        clear hbe hr hall hk0
        go_wp2
        go_round
        case rel => exact ⟨k + 1, by omega, by go_num, H⟩
        case measure => simp [intOf]; omega
      · have H : Hid (∀ j, j < k + 1 → M.nameAt j (M.byteAt s j) = true) := M.up_succ hall.out (M.okAt_more hk0 (M.more_yes (by omega)))
        have hk1 : ((k : Int) == 0) = false := beq_eq_false_iff_ne.2 (by omega)
        have ha1 : 95 ≤ ((s[k]'hlt).toNat : Int) := by omega
        have ha2 : ((s[k]'hlt).toNat : Int) ≤ 95 := by omega
        first | (have d2 : (decide (((s[k]'hlt).toNat : Int) ≤ 122)) = true := decide_eq_true (by omega)) | (have d2 : (decide (((s[k]'hlt).toNat : Int) ≤ 122)) = false := decide_eq_false (by omega)) | skip
        first | (have d3 : (decide (48 ≤ ((s[k]'hlt).toNat : Int))) = true := decide_eq_true (by omega)) | (have d3 : (decide (48 ≤ ((s[k]'hlt).toNat : Int))) = false := decide_eq_false (by omega)) | skip
        first | (have d4 : (decide (((s[k]'hlt).toNat : Int) ≤ 57)) = true := decide_eq_true (by omega)) | (have d4 : (decide (((s[k]'hlt).toNat : Int) ≤ 57)) = false := decide_eq_false (by omega)) | skip
        first | (have d6 : (((s[k]'hlt).toNat : Int) != 95) = true := by rw [bne_iff_ne]; omega) | (have d6 : (((s[k]'hlt).toNat : Int) != 95) = false := by rw [bne_eq_false_iff_eq]; omega) | skip
        clear hbe hr hall hk0 ha
        go_wp2
        go_round
        case rel => exact ⟨k + 1, by omega, by go_num, H⟩
        case measure => simp [intOf]; omega
      all_goals
        have hE : Hid (M.nameR s = false) := M.nameR_bad hlt (M.okAt_no (M.letter_no (by omega)) (by first | exact .inl hk0 | exact .inr (M.more_no (by omega))))
        first | (have hk1 : ((k : Int) == 0) = false := beq_eq_false_iff_ne.2 (by omega)) | (have hk1 : ((k : Int) == 0) = true := beq_iff_eq.2 (by omega))
        first | (have d2 : (decide (((s[k]'hlt).toNat : Int) ≤ 122)) = true := decide_eq_true (by omega)) | (have d2 : (decide (((s[k]'hlt).toNat : Int) ≤ 122)) = false := decide_eq_false (by omega)) | skip
        first | (have d3 : (decide (48 ≤ ((s[k]'hlt).toNat : Int))) = true := decide_eq_true (by omega)) | (have d3 : (decide (48 ≤ ((s[k]'hlt).toNat : Int))) = false := decide_eq_false (by omega)) | skip
        first | (have d4 : (decide (((s[k]'hlt).toNat : Int) ≤ 57)) = true := decide_eq_true (by omega)) | (have d4 : (decide (((s[k]'hlt).toNat : Int) ≤ 57)) = false := decide_eq_false (by omega)) | skip
        first | (have d6 : (((s[k]'hlt).toNat : Int) != 95) = true := by rw [bne_iff_ne]; omega) | (have d6 : (((s[k]'hlt).toNat : Int) != 95) = false := by rw [bne_eq_false_iff_eq]; omega) | skip
        clear hbe hr hall hk0
        go_wp2
        go_ret
        exact ⟨by rw [hE.out]; rfl, rfl⟩
    · have hE : Hid (M.nameR s = true) := M.nameR_good (by omega) (by omega) (fun j hj => hall.out j (by omega))
      go_wp2
      go_ret
      exact ⟨by rw [hE.out]; rfl, rfl⟩

set_option maxHeartbeats 400000 in
theorem isLetter_any (c : Int) (w : World) (h0 : 0 ≤ c) (h9 : c ≤ 255) :
    Calls Try.prog 91 #[.int .u8 c] w fun e w' => e = .returned (.bool (M.letter c)) ∧ w = w' := by
  rcases (show c < 97 ∨ (97 ≤ c ∧ c ≤ 122) ∨ 122 < c from by omega) with h | ⟨h, h'⟩ | h
  · have hE : Hid (M.letter c = false) := M.letter_no (.inl h)
    go_enter Try.func91, Try.ntmps91
    go_wp2
    go_ret
    exact ⟨by rw [hE.out]; rfl, rfl⟩
  · have hE : Hid (M.letter c = true) := M.letter_yes h h'
    have d2 : decide (c ≤ 122) = true := decide_eq_true (by omega)
    go_enter Try.func91, Try.ntmps91
    go_wp2
    go_ret
    exact ⟨by rw [hE.out]; rfl, rfl⟩
  · have hE : Hid (M.letter c = false) := M.letter_no (.inr h)
    have d2 : decide (c ≤ 122) = false := decide_eq_false (by omega)
    go_enter Try.func91, Try.ntmps91
    go_wp2
    go_ret
    exact ⟨by rw [hE.out]; rfl, rfl⟩
theorem isLetter_yes (c : Int) (w : World) (h0 : 97 ≤ c) (h9 : c ≤ 122) :
    Calls Try.prog 91 #[.int .u8 c] w fun e w' => e = .returned (.bool true) ∧ w = w' := by
  have := isLetter_any c w (by omega) (by omega)
  rwa [M.letter_yes h0 h9] at this
theorem isLetter_no (c : Int) (w : World) (h0 : 0 ≤ c) (h9 : c ≤ 255) (h : c < 97 ∨ 122 < c) :
    Calls Try.prog 91 #[.int .u8 c] w fun e w' => e = .returned (.bool false) ∧ w = w' := by
  have := isLetter_any c w (by omega) (by omega)
  rwa [M.letter_no h] at this

set_option maxHeartbeats 400000 in
theorem isNameByte_l (c : Int) (w : World) (_h0 : 0 ≤ c) (_h9 : c ≤ 255) (h : 97 ≤ c) (h' : c ≤ 122) :
    Calls Try.prog 92 #[.int .u8 c] w fun e w' => e = .returned (.bool true) ∧ w = w' := by
  go_enter Try.func92, Try.ntmps92
  go_wp2_with (go_at_call 91; refine (isLetter_yes _ _ h h').mono ?_; rintro e w' ⟨rfl, rfl⟩)
  go_ret
  exact ⟨rfl, rfl⟩
set_option maxHeartbeats 400000 in
theorem isNameByte_a (c : Int) (w : World) (h0 : 0 ≤ c) (h9 : c ≤ 255) (h : c < 48) :
    Calls Try.prog 92 #[.int .u8 c] w fun e w' => e = .returned (.bool false) ∧ w = w' := by
  have d5 : (c == 95) = false := beq_eq_false_iff_ne.2 (by omega)
  go_enter Try.func92, Try.ntmps92
  go_wp2_with (go_at_call 91; refine (isLetter_no _ _ h0 h9 (by omega)).mono ?_; rintro e w' ⟨rfl, rfl⟩)
  go_ret
  exact ⟨rfl, rfl⟩
set_option maxHeartbeats 400000 in
theorem isNameByte_d (c : Int) (w : World) (h0 : 0 ≤ c) (h9 : c ≤ 255) (h : 48 ≤ c) (h' : c ≤ 57) :
    Calls Try.prog 92 #[.int .u8 c] w fun e w' => e = .returned (.bool true) ∧ w = w' := by
  have d4 : decide (c ≤ 57) = true := decide_eq_true h'
  go_enter Try.func92, Try.ntmps92
  go_wp2_with (go_at_call 91; refine (isLetter_no _ _ h0 h9 (by omega)).mono ?_; rintro e w' ⟨rfl, rfl⟩)
  go_ret
  exact ⟨rfl, rfl⟩
set_option maxHeartbeats 400000 in
theorem isNameByte_b (c : Int) (w : World) (h0 : 0 ≤ c) (h9 : c ≤ 255) (h : 57 < c) (h' : c < 97) (h2 : c ≠ 95) :
    Calls Try.prog 92 #[.int .u8 c] w fun e w' => e = .returned (.bool false) ∧ w = w' := by
  have d4 : decide (c ≤ 57) = false := decide_eq_false (by omega)
  have d5 : (c == 95) = false := beq_eq_false_iff_ne.2 (by omega)
  clear h2
  go_enter Try.func92, Try.ntmps92
  go_wp2_with (go_at_call 91; refine (isLetter_no _ _ h0 h9 (by omega)).mono ?_; rintro e w' ⟨rfl, rfl⟩)
  go_ret
  exact ⟨rfl, rfl⟩
set_option maxHeartbeats 400000 in
theorem isNameByte_u (c : Int) (w : World) (h0 : 0 ≤ c) (h9 : c ≤ 255) (h : 95 ≤ c) (h' : c ≤ 95) :
    Calls Try.prog 92 #[.int .u8 c] w fun e w' => e = .returned (.bool true) ∧ w = w' := by
  have d4 : decide (c ≤ 57) = false := decide_eq_false (by omega)
  have d5 : (c == 95) = true := beq_iff_eq.2 (by omega)
  go_enter Try.func92, Try.ntmps92
  go_wp2_with (go_at_call 91; refine (isLetter_no _ _ h0 h9 (by omega)).mono ?_; rintro e w' ⟨rfl, rfl⟩)
  go_ret
  exact ⟨rfl, rfl⟩
set_option maxHeartbeats 400000 in
theorem isNameByte_z (c : Int) (w : World) (h0 : 0 ≤ c) (h9 : c ≤ 255) (h : 122 < c) :
    Calls Try.prog 92 #[.int .u8 c] w fun e w' => e = .returned (.bool false) ∧ w = w' := by
  have d4 : decide (c ≤ 57) = false := decide_eq_false (by omega)
  have d5 : (c == 95) = false := beq_eq_false_iff_ne.2 (by omega)
  go_enter Try.func92, Try.ntmps92
  go_wp2_with (go_at_call 91; refine (isLetter_no _ _ h0 h9 (by omega)).mono ?_; rintro e w' ⟨rfl, rfl⟩)
  go_ret
  exact ⟨rfl, rfl⟩
theorem isNameByte_any (c : Int) (w : World) (h0 : 0 ≤ c) (h9 : c ≤ 255) :
    Calls Try.prog 92 #[.int .u8 c] w fun e w' => e = .returned (.bool (M.nameB c)) ∧ w = w' := by
  have key : ∀ b, M.nameB c = b → (Calls Try.prog 92 #[.int .u8 c] w fun e w' => e = .returned (.bool b) ∧ w = w') → Calls Try.prog 92 #[.int .u8 c] w fun e w' => e = .returned (.bool (M.nameB c)) ∧ w = w' := fun b hb h => by rw [hb]; exact h
  have no : (c < 97 ∨ 122 < c) → M.nameB c = M.more c := fun hl => by unfold M.nameB; rw [M.letter_no hl]; rfl
  rcases (show (97 ≤ c ∧ c ≤ 122) ∨ c < 48 ∨ (48 ≤ c ∧ c ≤ 57) ∨ (57 < c ∧ c < 97 ∧ c ≠ 95) ∨ c = 95 ∨ 122 < c from by omega) with ⟨h, h'⟩ | h | ⟨h, h'⟩ | ⟨h, h', h2⟩ | h | h
  · exact key true (by unfold M.nameB; rw [M.letter_yes h h']; rfl) (isNameByte_l c w h0 h9 h h')
  · exact key false ((no (by omega)).trans (M.more_no (by omega))) (isNameByte_a c w h0 h9 h)
  · exact key true ((no (by omega)).trans (M.more_yes (by omega))) (isNameByte_d c w h0 h9 h h')
  · exact key false ((no (by omega)).trans (M.more_no (by omega))) (isNameByte_b c w h0 h9 h h' h2)
  · exact key true ((no (by omega)).trans (M.more_yes (by omega))) (isNameByte_u c w h0 h9 (by omega) (by omega))
  · exact key false ((no (by omega)).trans (M.more_no (by omega))) (isNameByte_z c w h0 h9 h)

set_option maxRecDepth 100000 in
set_option maxHeartbeats 1600000 in
theorem iNameRight_any (s : ByteArray) (w : World) (hs : s.size ≤ maxLen) :
    Calls Try.prog 63 #[.string s] w fun e w' => e = .returned (.bool (M.nameR s)) ∧ w = w' := by
  unfold maxLen at hs
  by_cases hlo : s.size < 1
  · have hE : Hid (M.nameR s = false) := M.nameR_short hlo
    go_enter Try.func63, Try.ntmps63
    go_wp2
    go_ret
    exact ⟨by rw [hE.out]; rfl, rfl⟩
  by_cases hhi : 20 < s.size
  · have hE : Hid (M.nameR s = false) := M.nameR_long hhi
    have hn1 : 1 ≤ s.size := by omega
    have hd : decide ((20 : Int) < (s.size : Int)) = true := decide_eq_true (by omega)
    go_enter Try.func63, Try.ntmps63
    go_wp2
    go_ret
    exact ⟨by rw [hE.out]; rfl, rfl⟩
  have h0s : 0 < s.size := by omega
  have hbe := M.byteAt_eq s 0 h0s
  have hr := M.byteAt_range s 0
  have hc0 : (0 : Int) ≤ ((s[0]'h0s).toNat : Int) := by omega
  have hc9 : ((s[0]'h0s).toNat : Int) ≤ 255 := by omega
  have hd : decide ((20 : Int) < (s.size : Int)) = false := decide_eq_false (by omega)
  by_cases hL : 97 ≤ ((s[0]'h0s).toNat : Int) ∧ ((s[0]'h0s).toNat : Int) ≤ 122
  · have hok : Hid (M.nameAt 0 (M.byteAt s 0) = true) := M.okAt_letter (M.letter_yes (by omega) (by omega))
    obtain ⟨hL1, hL2⟩ := hL
    clear hbe hr
    go_enter Try.func63, Try.ntmps63
    go_wp2_with (go_at_call 91; refine (isLetter_yes _ _ hL1 hL2).mono ?_; rintro e w' ⟨rfl, rfl⟩)
    go_loop [3] (fun i => ∃ k : Nat, 1 ≤ k ∧ k ≤ s.size ∧ i = .int .i64 k ∧ Hid (∀ j, j < k → M.nameAt j (M.byteAt s j) = true)) (fun i => s.size - (intOf i).toNat)
    case atStart => exact ⟨1, by omega, by omega, rfl, fun j hj => by obtain rfl : j = 0 := by omega
                                                                      exact hok.out⟩
    case round =>
      obtain ⟨k, hk1, hk, rfl, hall⟩ := hrel
      by_cases hlt : k < s.size
      · have hbe := M.byteAt_eq s k hlt
        have hr := M.byteAt_range s k
        have hd0 : (0 : Int) ≤ ((s[k]'hlt).toNat : Int) := by omega
        have hd9 : ((s[k]'hlt).toNat : Int) ≤ 255 := by omega
        have hB : Hid (M.nameAt k (M.byteAt s k) = M.nameB ((s[k]'hlt).toNat : Int)) := by show _ = _; rw [hbe]; exact M.okAt_nameB (by omega)
        cases hv : M.nameB ((s[k]'hlt).toNat : Int)
        · have hE : Hid (M.nameR s = false) := M.nameR_bad hlt (hB.out.trans hv)
          have hcall : ∀ W, Calls Try.prog 92 #[.int .u8 ((s[k]'hlt).toNat : Int)] W fun e w' => e = .returned (.bool false) ∧ W = w' := fun W => by have := isNameByte_any ((s[k]'hlt).toNat : Int) W hd0 hd9; rwa [hv] at this
          have hC := M.hide hcall
          clear hbe hr hall hv hB hcall
          go_wp2_with (go_at_call 92; refine (M.unhide hC _).mono ?_; rintro e w' ⟨rfl, rfl⟩)
          go_ret
          exact ⟨by rw [hE.out]; rfl, rfl⟩
        · have H : Hid (∀ j, j < k + 1 → M.nameAt j (M.byteAt s j) = true) := M.up_succ hall.out (hB.out.trans hv)
          have hcall : ∀ W, Calls Try.prog 92 #[.int .u8 ((s[k]'hlt).toNat : Int)] W fun e w' => e = .returned (.bool true) ∧ W = w' := fun W => by have := isNameByte_any ((s[k]'hlt).toNat : Int) W hd0 hd9; rwa [hv] at this
          have hC := M.hide hcall
          clear hbe hr hall hv hB hcall
          go_wp2_with (go_at_call 92; refine (M.unhide hC _).mono ?_; rintro e w' ⟨rfl, rfl⟩)
          go_round
          case rel => exact ⟨k + 1, by omega, by omega, by go_num, H⟩
          case measure => simp [intOf]; omega
      · have hE : Hid (M.nameR s = true) := M.nameR_good (by omega) (by omega) (fun j hj => hall.out j (by omega))
        go_wp2
        go_ret
        exact ⟨by rw [hE.out]; rfl, rfl⟩
  · have hE : Hid (M.nameR s = false) := M.nameR_bad h0s (M.okAt_no (M.letter_no (by omega)) (.inl rfl))
    have hcall : ∀ W, Calls Try.prog 91 #[.int .u8 ((s[0]'h0s).toNat : Int)] W fun e w' => e = .returned (.bool false) ∧ W = w' := fun W => isLetter_no _ W hc0 hc9 (by omega)
    have hC := M.hide hcall
    clear hbe hr hL hcall
    go_enter Try.func63, Try.ntmps63
    go_wp2_with (go_at_call 91; refine (M.unhide hC _).mono ?_; rintro e w' ⟨rfl, rfl⟩)
    go_ret
    exact ⟨by rw [hE.out]; rfl, rfl⟩
end Go.Proofs.Ytpokcbcffijheab
