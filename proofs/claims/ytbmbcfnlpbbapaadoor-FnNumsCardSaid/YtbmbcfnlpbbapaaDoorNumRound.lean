/-
  Numbers and texts come back from their bytes: the mathematics of promise 1.
-/
import Derived.Test.YtbmbcfnlpbbapaaDoorIGetText
import Derived.Test.YtbmbcfnlpbbapaaDoorTextWalks
namespace Go.Proofs.YtbmbcfnlpbbapaaDoor.M
open Go.RowKit

theorem fold_un (n : Int) : unZ (foldZ n) = n := by
  unfold unZ foldZ
  by_cases h : n < 0
  · rw [if_pos h, if_pos (by omega)]; omega
  · rw [if_neg h, if_neg (by omega)]; omega
theorem foldZ_nat (k : Nat) : foldZ (k : Int) = 2 * k := by unfold foldZ; rw [if_neg (by omega)]; omega

theorem enc_len_le : ∀ (k u : Nat), u < 18446744073709551616 → u < 128 ^ (k + 1) → (enc u).length ≤ k + 1
  | 0, u, _, h => by rw [enc_small (by simpa using h)]; simp
  | k + 1, u, hu, h => by
      by_cases hs : u < 128
      · rw [enc_small hs]; simp
      · rw [enc_big hs hu]
        have := enc_len_le k (u / 128) (by omega) (by rw [Nat.div_lt_iff_lt_mul (by omega)]; rw [Nat.pow_succ] at h; exact h)
        simp only [List.length_cons]; omega
theorem enc_len10 {u : Nat} (hu : u < 18446744073709551616) : (enc u).length ≤ 10 := enc_len_le 9 u hu (Nat.lt_of_lt_of_le hu (by decide))

theorem two64 {u : Nat} (hu : (u : Int) < 18446744073709551616) : u < 2 ^ (64 - 7 * 0) := by
  have : (2 : Nat) ^ (64 - 7 * 0) = 18446744073709551616 := by decide
  omega
theorem pow_sub {i : Nat} (h : i ≤ 8) : 2 ^ (64 - 7 * i) = 128 * 2 ^ (64 - 7 * (i + 1)) := by
  rw [show 64 - 7 * i = (64 - 7 * (i + 1)) + 7 by omega, Nat.pow_add]; omega

theorem rd_enc : ∀ (m u i v : Nat) (rest : List UInt8), u ≤ m → i ≤ 9 → u < 2 ^ (64 - 7 * i) → u < 18446744073709551616 → (i = 0 ∨ 1 ≤ u) → rd i v (enc u ++ rest) = (0, v + u * 2 ^ (7 * i), i + (enc u).length) := by
  intro m
  induction m with
  | zero =>
    intro u i v rest hm hi hu h64 h1
    obtain rfl : u = 0 := by omega
    obtain rfl : i = 0 := by omega
    rw [enc_small (by omega)]
    show rd 0 v (UInt8.ofNat 0 :: rest) = _
    rw [rd_last (by omega) (by decide) (by omega)]; rfl
  | succ m ih =>
    intro u i v rest hm hi hu h64 h1
    by_cases hs : u < 128
    · rw [enc_small hs]
      show rd i v (UInt8.ofNat u :: rest) = _
      have hb : (UInt8.ofNat u).toNat = u := toNat_ofNat (by omega)
      rw [rd_last, hb]
      · simp
      · rw [hb]
        rintro ⟨rfl, h⟩
        have : (2 : Nat) ^ (64 - 7 * 9) = 2 := by decide
        omega
      · rw [hb]; exact hs
      · rw [hb]; omega
    · have h8 : i ≤ 8 := by
        rcases (show i ≤ 8 ∨ i = 9 by omega) with h | rfl
        · exact h
        · have : (2 : Nat) ^ (64 - 7 * 9) = 2 := by decide
          omega
      rw [enc_big hs h64]
      show rd i v (UInt8.ofNat (u % 128 + 128) :: (enc (u / 128) ++ rest)) = _
      have hb : (UInt8.ofNat (u % 128 + 128)).toNat = u % 128 + 128 := toNat_ofNat (by omega)
      have hp := pow_sub h8
      rw [rd_more (by omega) (by rw [hb]; omega), hb, show (u % 128 + 128) % 128 = u % 128 by omega,
        ih (u / 128) (i + 1) _ rest (by omega) (by omega) (by rw [hp] at hu; rw [Nat.div_lt_iff_lt_mul (by omega)]; rw [Nat.mul_comm] at hu; exact hu) (by omega) (by omega)]
      rw [pow7]
      simp only [List.length_cons, Prod.mk.injEq, true_and]
      refine ⟨?_, by omega⟩
      have e : u * 2 ^ (7 * i) = (u % 128) * 2 ^ (7 * i) + u / 128 * (128 * 2 ^ (7 * i)) := by
        rw [← Nat.mul_assoc, ← Nat.add_mul]; congr 1; omega
      rw [e]; omega

theorem rd_cut : ∀ (m u i v : Nat), u ≤ m → i ≤ 9 → u < 2 ^ (64 - 7 * i) → u < 18446744073709551616 → rd i v (enc u).dropLast = (4, 0, 0) := by
  intro m
  induction m with
  | zero =>
    intro u i v hm hi hu h64
    obtain rfl : u = 0 := by omega
    rw [enc_small (by omega)]; exact rd_nil _ _
  | succ m ih =>
    intro u i v hm hi hu h64
    by_cases hs : u < 128
    · rw [enc_small hs]; exact rd_nil _ _
    · have h8 : i ≤ 8 := by
        rcases (show i ≤ 8 ∨ i = 9 by omega) with h | rfl
        · exact h
        · have : (2 : Nat) ^ (64 - 7 * 9) = 2 := by decide
          omega
      rw [enc_big hs h64]
      have hne : enc (u / 128) ≠ [] := by have := (enc_len (u / 128)).1; intro h; rw [h] at this; simp at this
      rw [List.dropLast_cons_of_ne_nil hne]
      have hb : (UInt8.ofNat (u % 128 + 128)).toNat = u % 128 + 128 := toNat_ofNat (by omega)
      have hp := pow_sub h8
      rw [rd_more (by omega) (by rw [hb]; omega)]
      exact ih (u / 128) (i + 1) _ (by omega) (by omega) (by rw [hp] at hu; rw [Nat.div_lt_iff_lt_mul (by omega)]; rw [Nat.mul_comm] at hu; exact hu) (by omega)

/-- A number's bytes behind some others, and some behind them: the number, and the place behind it. -/
theorem num_back (s : ByteArray) (k : Nat) (n : Int) (rest : List UInt8) (hs : ¬ 20000 < s.size) (h1 : -9223372036854775808 ≤ n) (h2 : n ≤ 9223372036854775807) (hd : s.data.toList.drop k = enc (foldZ n) ++ rest) :
    num3 s (k : Int) = (n, (k : Int) + ((enc (foldZ n)).length : Int), 0) := by
  have hu := foldZ_lt h1 h2
  rw [num3_in hs, hd, rd_enc (foldZ n) (foldZ n) 0 0 rest (Nat.le_refl _) (by omega) (two64 hu) (by omega) (.inl rfl)]
  simp [fold_un]
theorem num_cut (s : ByteArray) (n : Int) (hs : ¬ 20000 < s.size) (h1 : -9223372036854775808 ≤ n) (h2 : n ≤ 9223372036854775807) (hd : s.data.toList = (enc (foldZ n)).dropLast) :
    num3 s 0 = (0, 0, 4) := by
  have hu := foldZ_lt h1 h2
  have := num3_in (s := s) (n := 0) hs
  rw [List.drop_zero, hd, rd_cut (foldZ n) (foldZ n) 0 0 (Nat.le_refl _) (by omega) (two64 hu) (by omega)] at this
  simpa using this

theorem putText_list {u : ByteArray} (h : ¬ 20000 < u.size) : (putText u).data.toList = enc (foldZ (u.size : Int)) ++ u.data.toList := by
  rw [putText_small h, ByteArray.data_append, Array.toList_append]
theorem putText_size {u : ByteArray} (h : ¬ 20000 < u.size) : (putText u).size = (enc (foldZ (u.size : Int))).length + u.size := by
  rw [Lib.size_eq, putText_list h, List.length_append, ← Lib.size_eq]

/-- A text comes back from its bytes. -/
theorem text_back (u : ByteArray) (h : ¬ 20000 < u.size) (hs : (putText u).size + 1 ≤ 20000) :
    txt3 ((⟨#[120]⟩ : ByteArray) ++ putText u) 1 = (u, ((putText u).size : Int) + 1, 0) := by
  have hl : ((⟨#[120]⟩ : ByteArray) ++ putText u).data.toList = 120 :: (enc (foldZ (u.size : Int)) ++ u.data.toList) := by
    rw [ByteArray.data_append, Array.toList_append, putText_list h]; rfl
  have hz : ((⟨#[120]⟩ : ByteArray) ++ putText u).size = (putText u).size + 1 := by
    rw [Lib.size_eq, hl, List.length_cons, List.length_append, ← Lib.size_eq, putText_size h]
  have hp := putText_size h
  have hn := num_back ((⟨#[120]⟩ : ByteArray) ++ putText u) 1 (u.size : Int) u.data.toList (by omega) (by omega) (by omega) (by rw [hl]; rfl)
  rw [show ((1 : Nat) : Int) = 1 from rfl] at hn
  rw [txt3_ok (by rw [hn]) (by rw [hn]; simp only; omega) (by rw [hn]; simp only; omega), hn]
  simp only
  refine Prod.ext ?_ (Prod.ext (by simp only; omega) rfl)
  apply ByteArray.ext
  apply Array.toList_inj.1
  simp only
  rw [Lib.extract_data, hl, show ((1 : Int) + ((enc (foldZ (u.size : Int))).length : Int)).toNat = (enc (foldZ (u.size : Int))).length + 1 by omega, List.drop_succ_cons, List.drop_left, Int.toNat_natCast, Nat.add_sub_cancel_left]
  exact List.take_of_length_le (by rw [← Lib.size_eq]; exact Nat.le_refl _)

/-- Of bytes that end too early no text is got. -/
theorem text_cut (u : ByteArray) (h : ¬ 20000 < u.size) (hs : (putText u).size + 1 ≤ 20000) :
    (txt3 ((putText u).extract 0 ((putText u).size - 1)) 0).2.2 = 4 := by
  have hp := putText_size h
  have he := (enc_len (foldZ (u.size : Int))).1
  have hl : ((putText u).extract 0 ((putText u).size - 1)).data.toList = (enc (foldZ (u.size : Int)) ++ u.data.toList).dropLast := by
    rw [Lib.extract_data, putText_list h, List.drop_zero, List.dropLast_eq_take, List.length_append, ← Lib.size_eq, hp]; rfl
  have hz : ((putText u).extract 0 ((putText u).size - 1)).size = (putText u).size - 1 := by
    rw [ByteArray.size_extract]; omega
  by_cases h0 : u.size = 0
  · have hu : u.data.toList = [] := List.eq_nil_of_length_eq_zero (by rw [← Lib.size_eq]; exact h0)
    rw [hu, List.append_nil] at hl
    have hn := num_cut _ (u.size : Int) (by omega) (by omega) (by omega) hl
    rw [txt3_num (by rw [hn]; decide), hn]
  · have hne : u.data.toList ≠ [] := fun e => h0 (by rw [Lib.size_eq, e]; rfl)
    rw [List.dropLast_append_of_ne_nil hne] at hl
    have hn := num_back ((putText u).extract 0 ((putText u).size - 1)) 0 (u.size : Int) u.data.toList.dropLast (by omega) (by omega) (by omega) (by rw [hl]; rfl)
    rw [show ((0 : Nat) : Int) = 0 from rfl] at hn
    rw [txt3_short (by rw [hn]) (by rw [hn]; simp only; omega) (by rw [hn]; simp only; omega)]
end Go.Proofs.YtbmbcfnlpbbapaaDoor.M
