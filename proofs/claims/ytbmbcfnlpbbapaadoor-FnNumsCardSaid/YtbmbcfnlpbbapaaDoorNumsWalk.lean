/-
  The law of promise 1: numbers, and texts that fit in, come back from their bytes.
-/
import Derived.Test.YtbmbcfnlpbbapaaDoorDrawNums
import Derived.Test.YtbmbcfnlpbbapaaDoorNumRound
import Derived.Test.YtbmbcfnlpbbapaaDoorIGetNum
namespace Go.Proofs.YtbmbcfnlpbbapaaDoor
open Go.RowKit

theorem M.IsRow.below {W W' : World} {a : Option Addr} {len cap : Nat} (h : M.IsRow W a len cap) (hb : Below W.heap.size W W') : M.IsRow W' a len cap :=
  h.kept (row := none) ⟨hb.os, hb.tape, hb.output, hb.size, fun k hk _ => hb.block k hk⟩ (fun _ x _ => by simp)

/-- What the first half of the law needs of a number's bytes. -/
theorem M.num_facts (n : Int) (h1 : -9223372036854775808 ≤ n) (h2 : n ≤ 9223372036854775807) (T : ByteArray) (hT : T = ⟨(M.enc (M.foldZ n)).toArray⟩) :
    1 ≤ T.size ∧ T.size ≤ 10 ∧ M.num3 ((⟨#[120, 121]⟩ : ByteArray) ++ T ++ ⟨#[122]⟩) 2 = (n, (T.size : Int) + 2, 0) ∧ M.num3 (T.extract 0 (T.size - 1)) 0 = (0, 0, 4) := by
  have hu := M.foldZ_lt h1 h2
  have hl : T.data.toList = M.enc (M.foldZ n) := by rw [hT]
  have hz : T.size = (M.enc (M.foldZ n)).length := by rw [Lib.size_eq, hl]
  have e1 := (M.enc_len (M.foldZ n)).1
  have e2 := M.enc_len10 (u := M.foldZ n) (by omega)
  refine ⟨by omega, by omega, ?_, ?_⟩
  · have hx : ((⟨#[120, 121]⟩ : ByteArray) ++ T ++ ⟨#[122]⟩).data.toList = 120 :: 121 :: (M.enc (M.foldZ n) ++ [122]) := by
      rw [ByteArray.data_append, ByteArray.data_append, Array.toList_append, Array.toList_append, hl]; rfl
    have hs : ((⟨#[120, 121]⟩ : ByteArray) ++ T ++ ⟨#[122]⟩).size = T.size + 3 := by
      rw [Lib.size_eq, hx, hz]; simp
    have := M.num_back _ 2 n [122] (by rw [hs]; omega) h1 h2 (by rw [hx]; rfl)
    rw [show ((2 : Nat) : Int) = 2 from rfl] at this
    rw [this, hz]
    simp only [Prod.mk.injEq, true_and, and_true]
    omega
  · refine M.num_cut _ n (by rw [ByteArray.size_extract]; omega) h1 h2 ?_
    rw [Lib.extract_data, hl, List.drop_zero, List.dropLast_eq_take, hz]; rfl

theorem Tryd.fieldNum (x y z : Int) (W : World) : (Instr.field 26 (.agg #[.int .i64 x, .int .i64 y, .int .i64 z]) 2).run Tryd.prog W = .ok (.int .i64 z) W := by kernel_rfl
theorem Tryd.fieldText (x : ByteArray) (y z : Int) (W : World) : (Instr.field 31 (.agg #[.string x, .int .i64 y, .int .i64 z]) 2).run Tryd.prog W = .ok (.int .i64 z) W := by kernel_rfl

set_option maxRecDepth 100000 in
set_option maxHeartbeats 1600000 in
theorem fnNums_in (w : World) (a0 a1 : Option Addr) (len0 cap0 len1 cap1 : Nat) (hR0 : M.IsRow w a0 len0 cap0) (hR1 : M.IsRow w a1 len1 cap1) (hg : M.errT w) (hl0 : len0 ≤ 1048576) (hl1 : len1 ≤ 1048576) :
    Calls Tryd.prog 3 #[.slice a0 len0 cap0, .slice a1 len1 cap1] w fun e w' => e = .returned (.bool true) ∧ Below w.heap.size w w' := by
  have HR0 : Hid (M.IsRow w a0 len0 cap0) := hR0
  have HR1 : Hid (M.IsRow w a1 len1 cap1) := hR1
  have HG : Hid (M.errT w) := hg
  clear hR0 hR1 hg
  have fn := Tryd.fieldNum
  have ft := Tryd.fieldText
  have d0 : decide ((1048576 : Int) < (len0 : Int)) = false := decide_eq_false (by omega)
  have d1 : decide ((1048576 : Int) < (len1 : Int)) = false := decide_eq_false (by omega)
  go_enter Tryd.func3, Tryd.ntmps3
  go_wp2_with fail
  refine (drawPutNum_any _ a0 len0 cap0 HR0.out).mono ?_
  rintro e w1 ⟨n, rfl, h1, h2, hb1⟩
  have HB1 : Hid (Below w.heap.size w w1) := hb1
  clear hb1
  have hP := fun W => iPutNum_any n W h1 h2
  have hQ := fun W => sPutNum_any n W h1 h2
  obtain ⟨T, hT⟩ : ∃ T : ByteArray, T = ⟨(M.enc (M.foldZ n)).toArray⟩ := ⟨_, rfl⟩
  obtain ⟨t1, t2, t3, t4⟩ := M.num_facts n h1 h2 T hT
  rw [← hT] at hP hQ
  have HP : Hid _ := hP
  have HQ : Hid _ := hQ
  have T3 : Hid _ := t3
  have T4 : Hid _ := t4
  clear hP hQ hT t3 t4
  have e1 : decide ((T.size : Int) < 1) = false := decide_eq_false (by omega)
  have e2 : decide ((10 : Int) < (T.size : Int)) = false := decide_eq_false (by omega)
  have a1' := fun W => run_string_add_sum (P := Tryd.prog) (w := W) ⟨#[120, 121]⟩ T (by show 2 + _ ≤ _; omega)
  have a2' := fun W => run_string_add_sum (P := Tryd.prog) (w := W) (⟨#[120, 121]⟩ ++ T) ⟨#[122]⟩ (by rw [ByteArray.size_append]; show 2 + _ + 1 ≤ _; omega)
  go_wp2_with (first | (go_at_call 8; refine (HP.out _).mono ?_; rintro e w2 ⟨rfl, hb2⟩) | (go_at_call 9; refine (HQ.out _).mono ?_; rintro e w3 ⟨rfl, hb3⟩))
  have HB3 : Hid (Below w.heap.size w w3) := (HB1.out.trans (hb2.mono HB1.out.size)).trans (hb3.mono (by have := HB1.out.size; have := hb2.size; omega))
  clear hb2 hb3 HP HQ e1 e2 a1' a2'
  have hX : ((⟨#[120, 121]⟩ : ByteArray) ++ T ++ ⟨#[122]⟩).size ≤ maxLen := by
    rw [ByteArray.size_append, ByteArray.size_append]; show 2 + _ + 1 ≤ _; unfold maxLen; omega
  have hG1 := fun W hg => iGetNum_any ((⟨#[120, 121]⟩ : ByteArray) ++ T ++ ⟨#[122]⟩) 2 W hX (by omega) (by omega) hg
  rw [T3.out] at hG1
  refine (hG1 _ (M.errT_below HG.out HB3.out)).mono ?_
  rintro e w4 ⟨rfl, hb4⟩
  have HB4 : Hid (Below w.heap.size w w4) := HB3.out.trans (hb4.mono HB3.out.size)
  have hY : (T.extract 0 (T.size - 1)).size ≤ maxLen := by rw [ByteArray.size_extract]; unfold maxLen; omega
  have hG2 := fun W hg => iGetNum_any (T.extract 0 (T.size - 1)) 0 W hY (by omega) (by omega) hg
  rw [T4.out] at hG2
  have HG2 : Hid _ := hG2
  clear hG1 hG2 hX hY hb4 T3 T4
  go_wp2_with fail
  have HB5 : Hid (Below w.heap.size w (w4.alloc (.cells #[.int .i64 n, .int .i64 ((T.size : Int) + 2), .int .i64 0] 26))) := HB4.out.alloc HB4.out.size _
  refine (HG2.out _ (M.errT_below HG.out HB5.out)).mono ?_
  rintro e w6 ⟨rfl, hb6⟩
  have HB6 : Hid (Below w.heap.size w w6) := HB5.out.trans (hb6.mono HB5.out.size)
  clear hb6 HG2 HB5 HB4 HB3 HB1
  go_wp2_with fail
  refine (drawPutText_any _ a1 len1 cap1 (HR1.out.below HB6.out)).mono ?_
  rintro e w7 ⟨u, rfl, hu, hb7⟩
  have HB7 : Hid (Below w.heap.size w w7) := HB6.out.trans (hb7.mono HB6.out.size)
  have hum : u.size ≤ maxLen := by unfold maxLen; omega
  have HUM : Hid (u.size ≤ maxLen) := hum
  clear hb7 HB6 hum
  by_cases hbig : 20000 < u.size
  · have hE := M.putText_big hbig
    have hP := fun W => iPutText_any u W HUM.out
    have hQ := fun W => sPutText_any u W HUM.out
    rw [hE] at hP hQ
    have HP : Hid _ := hP
    have HQ : Hid _ := hQ
    clear hP hQ hE
    go_wp2_with fail
    refine (HP.out _).mono ?_
    rintro e w8 ⟨rfl, hb8⟩
    go_wp2_with fail
    refine (HQ.out _).mono ?_
    rintro e w9 ⟨rfl, hb9⟩
    go_wp2_with fail
    refine (HQ.out _).mono ?_
    rintro e w10 ⟨rfl, hb10⟩
    go_wp2
    go_ret
    have s7 := HB7.out.size
    have s8 := hb8.size
    have s9 := hb9.size
    exact ⟨rfl, ((HB7.out.trans (hb8.mono s7)).trans (hb9.mono (by omega))).trans (hb10.mono (by omega))⟩
  · have hz := M.putText_size hbig
    have he := (M.enc_len (M.foldZ (u.size : Int))).1
    have hP := fun W => iPutText_any u W HUM.out
    have hQ := fun W => sPutText_any u W HUM.out
    have b1 := M.text_back u hbig
    have b2 := M.text_cut u hbig
    generalize M.putText u = p at hP hQ b1 b2 hz
    have hp1 : 1 ≤ p.size := by omega
    have hp2 : p.size ≤ 20011 := by have := (M.enc_len (M.foldZ (u.size : Int))).2; omega
    have HP : Hid _ := hP
    have HQ : Hid _ := hQ
    have B1 : Hid _ := b1
    have B2 : Hid _ := b2
    clear hP hQ hz he b1 b2
    have hpe : p.toList.isEmpty = false := by
      rw [ByteArray.toList_eq]
      cases hq : p.data.toList with
      | nil => rw [Lib.size_eq, hq] at hp1; simp at hp1
      | cons a b => rfl
    go_wp2_with fail
    refine (HP.out _).mono ?_
    rintro e w8 ⟨rfl, hb8⟩
    go_wp2_with fail
    refine (HQ.out _).mono ?_
    rintro e w9 ⟨rfl, hb9⟩
    have HB9 : Hid (Below w.heap.size w w9) := (HB7.out.trans (hb8.mono HB7.out.size)).trans (hb9.mono (by have := HB7.out.size; have := hb8.size; omega))
    clear hb8 hb9 HB7 HP HQ
    by_cases hfit : 20000 < p.size + 1
    · have f1 : decide ((20000 : Int) < (p.size : Int) + 1) = true := decide_eq_true (by omega)
      go_wp2
      go_ret
      exact ⟨rfl, HB9.out⟩
    · have f1 : decide ((20000 : Int) < (p.size : Int) + 1) = false := decide_eq_false (by omega)
      have a3 := fun W => run_string_add_sum (P := Tryd.prog) (w := W) ⟨#[120]⟩ p (by show 1 + _ ≤ _; omega)
      have hX : ((⟨#[120]⟩ : ByteArray) ++ p).size ≤ maxLen := by rw [ByteArray.size_append]; show 1 + _ ≤ _; unfold maxLen; omega
      have hG1 := fun W hg => iGetText_any ((⟨#[120]⟩ : ByteArray) ++ p) 1 W hX (by omega) (by omega) hg
      rw [B1.out (by omega)] at hG1
      have hY : (p.extract 0 (p.size - 1)).size ≤ maxLen := by rw [ByteArray.size_extract]; unfold maxLen; omega
      have hG2 := fun W hg => iGetText_any (p.extract 0 (p.size - 1)) 0 W hY (by omega) (by omega) hg
      rw [B2.out (by omega)] at hG2
      have HG1 : Hid _ := hG1
      have HG2 : Hid _ := hG2
      clear hG1 hG2 hX hY B1 B2
      go_wp2_with fail
      refine (HG1.out _ (M.errT_below HG.out HB9.out)).mono ?_
      rintro e w10 ⟨rfl, hb10⟩
      have HB10 : Hid (Below w.heap.size w w10) := HB9.out.trans (hb10.mono HB9.out.size)
      clear hb10
      go_wp2_with fail
      refine (HG2.out _ (M.errT_below HG.out HB10.out)).mono ?_
      rintro e w11 ⟨rfl, hb11⟩
      go_wp2
      go_ret
      exact ⟨rfl, HB10.out.trans (hb11.mono HB10.out.size)⟩

set_option maxHeartbeats 400000 in
theorem fnNums_walk (a0 : Option Addr) (len0 cap0 : Nat) (a1 : Option Addr) (len1 cap1 : Nat) (w : World) (hR0 : M.IsRow w a0 len0 cap0) (hR1 : M.IsRow w a1 len1 cap1) (hg : M.errT w) :
    Calls Tryd.prog 3 #[.slice a0 len0 cap0, .slice a1 len1 cap1] w fun e w' => e = .returned (.bool true) ∧ Below w.heap.size w w' := by
  have hl0 := hR0.len_le
  have hl1 := hR1.len_le
  by_cases h0 : 1048576 < len0
  · have d0 : decide ((1048576 : Int) < (len0 : Int)) = true := decide_eq_true (by omega)
    clear hR0 hR1 hg
    go_enter Tryd.func3, Tryd.ntmps3
    go_wp2
    go_ret
    exact ⟨rfl, Below.refl _ _⟩
  by_cases h1 : 1048576 < len1
  · have d0 : decide ((1048576 : Int) < (len0 : Int)) = false := decide_eq_false (by omega)
    have d1 : decide ((1048576 : Int) < (len1 : Int)) = true := decide_eq_true (by omega)
    clear hR0 hR1 hg
    go_enter Tryd.func3, Tryd.ntmps3
    go_wp2
    go_ret
    exact ⟨rfl, Below.refl _ _⟩
  exact fnNums_in w a0 a1 len0 cap0 len1 cap1 hR0 hR1 hg (by omega) (by omega)
end Go.Proofs.YtbmbcfnlpbbapaaDoor
