/-
  What l01Dec, l03Record and l03Fill of the specification do.
-/
import Derived.Test.YtbmbcfnlpbbapahDoorPackMath
import Derived.Test.YtbmbcfnlpbbapahDoorConvByte
import Derived.Test.YtbmbcfnlpbbapahDoorSZeros
namespace Go.Proofs.YtbmbcfnlpbbapahDoor
open Go.RowKit

theorem M.s1' {a w v : World} (h : Below a.heap.size a w) (h' : Below w.heap.size w v) : Below a.heap.size a v := h.trans (h'.mono h.size)

set_option maxRecDepth 100000 in
set_option maxHeartbeats 1600000 in
theorem sDec_any (n : Nat) (w : World) (h1 : 100 ≤ n) (h2 : n ≤ 999) :
    Calls Tryd.prog 72 #[.int .i64 n] w fun e w' => e = .returned (.string (M.decB n)) ∧ Below w.heap.size w w' := by
  have HL : Hid ((Lib.decDigits n).length = 3) := by show _ = _; rw [Lib.decDigits_length, M.nDigits3 h1 h2]
  have e0 : ((n : Int) == 0) = false := by rw [beq_eq_false_iff_ne]; omega
  have e1 : decide ((n : Int) < 0) = false := decide_eq_false (by omega)
  go_enter Tryd.func72, Tryd.ntmps72
  go_wp2
  go_loopw [0, 4] (fun x t wr => ∃ (N : Nat) (s : ByteArray), x = .int .i64 N ∧ t = .string s ∧ N ≤ n ∧ s.size ≤ 3 ∧ Hid (M.decI n N s.data.toList) ∧ Hid (Below w.heap.size w wr)) (fun x _ _ => (intOf x).toNat)
  case atStart => exact ⟨n, ⟨#[]⟩, rfl, rfl, Nat.le_refl _, Nat.zero_le _, M.decI_start (by omega), Below.refl _ _⟩
  case round =>
    obtain ⟨N, s, rfl, rfl, hN, hs, HI, HB⟩ := hrel
    by_cases hz : N = 0
    · subst hz
      have hE : Hid (M.decB n = s) := by
        show _ = _
        unfold M.decB
        rw [← M.decI_end HI.out]
      go_wp2
      go_ret
      exact ⟨by rw [hE.out]; rfl, HB.out⟩
    · have hne : ((N : Int) != 0) = true := by rw [bne_iff_ne]; omega
      have H2 : Hid (M.decI n (N / 10) (UInt8.ofNat (48 + N % 10) :: s.data.toList)) := M.decI_step HI.out hz
      have hcv := M.conv_byte wr (48 + (N : Int) % 10) (by omega) (by omega)
      obtain ⟨c, hc⟩ : ∃ c, c = UInt8.ofNat (48 + (N : Int) % 10).toNat := ⟨_, rfl⟩
      rw [← hc] at hcv
      have H3 : Hid (((⟨#[c]⟩ : ByteArray) ++ s).data.toList = UInt8.ofNat (48 + N % 10) :: s.data.toList) := by
        show _ = _
        rw [ByteArray.data_append, hc, show (48 + (N : Int) % 10).toNat = 48 + N % 10 by omega]
        simp
      have hsz2 : Hid (((⟨#[c]⟩ : ByteArray) ++ s).size ≤ 3) := by
        have := M.decI_len H2.out
        rw [HL.out] at this
        show _ ≤ _
        rw [Lib.size_eq, H3.out]; exact this
      have H4 : Hid (M.decI n (N / 10) ((⟨#[c]⟩ : ByteArray) ++ s).data.toList) := by show M.decI _ _ _; rw [H3.out]; exact H2.out
      have hwr : IntKind.u8.wrap (48 + (N : Int) % 10) = 48 + (N : Int) % 10 := by rw [IntKind.wrap_u8]; omega
      have d1 : decide ((N : Int) % 10 < 0) = false := decide_eq_false (by omega)
      have hp : 0 < N := by omega
      clear hc hz
      go_wp2
      go_roundw
      case rel => exact ⟨N / 10, _, by go_num, rfl, by omega, hsz2.out, H4, HB.out.alloc HB.out.size _⟩
      case measure => simp [intOf]; omega

set_option maxRecDepth 100000 in
set_option maxHeartbeats 1600000 in
theorem sRec_any (p : ByteArray) (w : World) (h1 : 100 < p.size) (h2 : p.size ≤ 900) :
    Calls Tryd.prog 59 #[.string p] w fun e w' => e = .returned (.string (M.recB p)) ∧ Below w.heap.size w w' := by
  have HD : Hid (∀ (n : Nat) W, 100 ≤ n → n ≤ 999 → Calls Tryd.prog 72 #[.int .i64 n] W fun e w' => ∃ t : ByteArray, Hid (t = M.decB n) ∧ t.size = 3 ∧ e = .returned (.string t) ∧ Below W.heap.size W w') := fun n W a b => (sDec_any n W a b).mono fun e w' h => ⟨_, rfl, M.decB_size a b, h.1, h.2⟩
  obtain ⟨r, hr⟩ : ∃ r, r = (⟨#[32, 112, 97, 116, 104, 61]⟩ : ByteArray) ++ p ++ ⟨#[10]⟩ := ⟨_, rfl⟩
  have hz : r.size = p.size + 7 := by rw [hr]; exact M.restB_size p
  have HE : Hid (∀ t, t = M.decB (p.size + 10) → t ++ r = M.recB p) := fun t ht => by rw [ht, hr]; rfl
  have hr' : (⟨#[32, 112, 97, 116, 104, 61]⟩ : ByteArray) ++ p ++ ⟨#[10]⟩ = r := hr.symm
  clear hr
  go_enter Tryd.func59, Tryd.ntmps59
  go_wp2
  go_loopw [4] (fun x wr => ∃ k : Nat, x = .int .i64 k ∧ p.size + 8 ≤ k ∧ k ≤ p.size + 10 ∧ Hid (Below w.heap.size w wr)) (fun x _ => p.size + 10 - (intOf x).toNat)
  case atStart => exact ⟨p.size + 8, by go_num, Nat.le_refl _, by omega, Below.refl _ _⟩
  case round =>
    obtain ⟨k, rfl, hk1, hk2, HB⟩ := hrel
    by_cases hk : k = p.size + 10
    · have d1 : ((k : Int) != (p.size : Int) + 7 + 3) = false := by rw [bne_eq_false_iff_eq]; omega
      have HK : Hid (k = p.size + 10) := hk
      clear hk
      go_wp2_with fail
      refine (HD.out k _ (by omega) (by omega)).mono ?_
      rintro e w1 ⟨t, _, ht, rfl, hb⟩
      have HB1 : Hid (Below w.heap.size w w1) := M.s1' HB.out hb
      clear hb HB
      go_wp2_with fail
      refine (HD.out k _ (by omega) (by omega)).mono ?_
      rintro e w2 ⟨u, hu, hu3, rfl, hb⟩
      have HB2 : Hid (Below w.heap.size w w2) := M.s1' HB1.out hb
      have HF : Hid (M.recB p = u ++ r) := (HE.out u (by rw [hu.out, HK.out])).symm
      clear hb HB1 hu
      go_wp2
      go_ret
      exact ⟨by rw [HF.out]; rfl, HB2.out⟩
    · have d1 : ((k : Int) != (p.size : Int) + 7 + 3) = true := by rw [bne_iff_ne]; omega
      have hk3 : k < p.size + 10 := by omega
      clear hk
      go_wp2_with fail
      refine (HD.out k _ (by omega) (by omega)).mono ?_
      rintro e w1 ⟨t, _, ht, rfl, hb⟩
      have HB1 : Hid (Below w.heap.size w w1) := M.s1' HB.out hb
      clear hb HB
      go_wp2
      go_roundw
      case rel => exact ⟨k + 1, by go_num, by omega, by omega, HB1⟩
      case measure => simp [intOf]; omega

set_option maxRecDepth 100000 in
set_option maxHeartbeats 800000 in
theorem sFill_any (t : ByteArray) (w : World) (h : t.size ≤ 100000) :
    Calls Tryd.prog 60 #[.string t] w fun e w' => e = .returned (.string (M.fillB t)) ∧ Below w.heap.size w w' := by
  have HZ : Hid (∀ W, Calls Tryd.prog 37 #[.int .i64 (M.fillN t.size : Nat)] W fun e w' => e = .returned (.string (M.zerosB (M.fillN t.size))) ∧ Below W.heap.size W w') := fun W => sZeros_any _ W (by have := M.fillN_lt t.size; omega)
  have hf : (512 - (t.size : Int) % 512) % 512 = (M.fillN t.size : Nat) := by unfold M.fillN; omega
  have hz : (M.zerosB (M.fillN t.size)).size ≤ 512 := by rw [M.zerosB_size]; have := M.fillN_lt t.size; omega
  go_enter Tryd.func60, Tryd.ntmps60
  go_wp2_with fail
  refine (HZ.out _).mono ?_
  rintro e w1 ⟨rfl, hb⟩
  have HB : Hid (Below w.heap.size w w1) := hb
  have HE : Hid (t ++ M.zerosB (M.fillN t.size) = M.fillB t) := rfl
  generalize M.zerosB (M.fillN t.size) = z at hz HE ⊢
  clear hb hf
  go_wp2
  go_ret
  exact ⟨by rw [← HE.out]; rfl, HB.out⟩
end Go.Proofs.YtbmbcfnlpbbapahDoor
