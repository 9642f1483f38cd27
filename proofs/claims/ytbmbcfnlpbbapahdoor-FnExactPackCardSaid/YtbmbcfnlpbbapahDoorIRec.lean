/-
  What recordOf and recordEntry of the program do at a long name.
-/
import Derived.Test.YtbmbcfnlpbbapahDoorIFill
import Derived.Test.YtbmbcfnlpbbapahDoorIHeadYes
import Derived.Lib.SmallJoins
import Derived.Lib.AppendIntMem
namespace Go.Proofs.YtbmbcfnlpbbapahDoor
open Go.RowKit

/-- The library's table of the powers of ten is as it was laid. -/
def M.pw (w : World) : Prop := Lib.TabIs Tryd.prog w "internal/strconv.uint64pow10" .u64 Lib.pow10Tab
theorem M.pw.below {w w' : World} (h : M.pw w) (hb : Below w.heap.size w w') : M.pw w' :=
  Joins.tab_stays (show Tryd.prog.globalNamed "internal/strconv.uint64pow10" = some 0 by kernel_rfl) h hb (Nat.le_refl _)
theorem iItoa_any (n : Nat) (w : World) (h1 : 100 ≤ n) (h2 : n ≤ 999) (hw : M.pw w) :
    Calls Tryd.prog 74 #[.int .i64 n] w fun e w' => e = .returned (.string (M.decB n)) ∧ Below w.heap.size w w' :=
  (Tryd.strconv_Itoa n (by omega) (by omega) w hw).mono fun e w' ⟨he, k, os, hw'⟩ => ⟨by rw [he, Lib.itoa_nonneg]; rfl, by rw [hw']; exact Lib.below_grow _ _ (Nat.le_refl _) _ _⟩

set_option maxRecDepth 100000 in
set_option maxHeartbeats 600000 in
theorem iRec_any (p : ByteArray) (w : World) (h1 : 100 < p.size) (h2 : p.size ≤ 900) (hw : M.pw w) :
    Calls Tryd.prog 63 #[.string p] w fun e w' => e = .returned (.string (M.recB p)) ∧ Below w.heap.size w w' := by
  have HD : Hid (∀ (n : Nat) W, 100 ≤ n → n ≤ 999 → Below w.heap.size w W → Calls Tryd.prog 74 #[.int .i64 n] W fun e w' => ∃ t : ByteArray, Hid (t = M.decB n) ∧ t.size = 3 ∧ e = .returned (.string t) ∧ Below w.heap.size w w') := fun n W a b hb => (iItoa_any n W a b (hw.below hb)).mono fun e w' h => ⟨_, rfl, M.decB_size a b, h.1, M.s1i hb h.2⟩
  obtain ⟨r, hr⟩ : ∃ r, r = (⟨#[32, 112, 97, 116, 104, 61]⟩ : ByteArray) ++ p ++ ⟨#[10]⟩ := ⟨_, rfl⟩
  have hz : r.size = p.size + 7 := by rw [hr]; exact M.restB_size p
  have HE : Hid (∀ t, t = M.decB (p.size + 10) → t ++ r = M.recB p) := fun t ht => by rw [ht, hr]; rfl
  have hr' : (⟨#[32, 112, 97, 116, 104, 61]⟩ : ByteArray) ++ p ++ ⟨#[10]⟩ = r := hr.symm
  clear hr hw
  go_enter Tryd.func63, Tryd.ntmps63
  go_wp2
  go_loopw [4] (fun x wr => ∃ k : Nat, x = .int .i64 k ∧ (k = p.size + 7 ∨ k = p.size + 10) ∧ Hid (Below w.heap.size w wr)) (fun x _ => p.size + 10 - (intOf x).toNat)
  case atStart => exact ⟨p.size + 7, by go_num, .inl rfl, Below.refl _ _⟩
  case round =>
    obtain ⟨k, rfl, hk, HB⟩ := hrel
    rcases hk with rfl | rfl
    · have d1 : ((p.size : Int) + 7 != (p.size : Int) + 7 + 3) = true := by rw [bne_iff_ne]; omega
      go_wp2_with fail
      refine (HD.out (p.size + 7) _ (by omega) (by omega) HB.out).mono ?_
      rintro e w1 ⟨t, _, ht, rfl, hb⟩
      have HB1 : Hid (Below w.heap.size w w1) := hb
      clear hb HB
      go_wp2_with fail
      refine (HD.out (p.size + 7) _ (by omega) (by omega) HB1.out).mono ?_
      rintro e w2 ⟨u, _, hu, rfl, hb⟩
      have HB2 : Hid (Below w.heap.size w w2) := hb
      clear hb HB1
      go_wp2
      go_roundw
      case rel => exact ⟨p.size + 10, by go_num, .inr rfl, HB2⟩
      case measure => simp [intOf]; omega
    · have d1 : ((p.size : Int) + 10 != (p.size : Int) + 7 + 3) = false := by rw [bne_eq_false_iff_eq]; omega
      go_wp2_with fail
      refine (HD.out (p.size + 10) _ (by omega) (by omega) HB.out).mono ?_
      rintro e w1 ⟨t, _, ht, rfl, hb⟩
      have HB1 : Hid (Below w.heap.size w w1) := hb
      clear hb HB
      go_wp2_with fail
      refine (HD.out (p.size + 10) _ (by omega) (by omega) HB1.out).mono ?_
      rintro e w2 ⟨u, hu, hu3, rfl, hb⟩
      have HB2 : Hid (Below w.heap.size w w2) := hb
      have HF : Hid (M.recB p = u ++ r) := (HE.out u hu.out).symm
      clear hb HB1 hu
      go_wp2
      go_ret
      exact ⟨by rw [HF.out]; rfl, HB2.out⟩

end Go.Proofs.YtbmbcfnlpbbapahDoor
