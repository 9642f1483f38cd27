/-
  A log with a record more: withRecord of the program, l08Add of the specification.
-/
import Derived.Test.YtcoppfmigpdglabSealBase
import Derived.Test.YtcoppfmigpdglabSealSpec
import Derived.Test.YtcoppfmigpdglabTextWalks
import Derived.Test.YtcoppfmigpdglabCloneT
import Derived.Test.YtcoppfmigpdglabConvByte
import Derived.Test.YtcoppfmigpdglabLinkMath
namespace Go.Proofs.Ytcoppfmigpdglab
open Go.RowKit

/-- A log with a record at its end, or as it is. -/
def M.logMore (log body : ByteArray) : ByteArray := if 20000 < (log ++ M.putText (M.sealT body)).size then log else log ++ M.putText (M.sealT body)
theorem M.sealT_size (s : ByteArray) : (M.sealT s).size ≤ 20000 := by
  unfold M.sealT
  split
  · exact Nat.zero_le _
  · rw [ByteArray.size_append, M.four_size]
    omega
theorem M.putText_size (s : ByteArray) : (M.putText s).size ≤ 20011 := by
  by_cases h : 20000 < s.size
  · rw [M.putText_big h]; exact Nat.zero_le _
  · rw [M.putText_small h, ByteArray.size_append]
    have := M.enc_size (M.foldZ (s.size : Int))
    omega
theorem M.logMore_size {log : ByteArray} (body : ByteArray) (h : log.size ≤ 20000) : (M.logMore log body).size ≤ 20000 := by
  unfold M.logMore
  split <;> omega

set_option maxRecDepth 100000 in
set_option maxHeartbeats 800000 in
theorem iWithRec_any (log b : ByteArray) (z : Int) (w : World) (h0 : 0 ≤ z) (h9 : z < 256) (hl : log.size ≤ 20000) (hb : b.size ≤ 100000) :
    Calls Try.prog 41 #[.string log, .int .u8 z, .string b] w fun e w' => e = .returned (.string (M.logMore log (⟨#[UInt8.ofNat z.toNat]⟩ ++ b))) ∧ Below w.heap.size w w' := by
  have hcv := M.conv_byte w z h0 h9
  obtain ⟨k, hk⟩ : ∃ k : ByteArray, k = ⟨#[UInt8.ofNat z.toNat]⟩ := ⟨_, rfl⟩
  rw [← hk] at hcv ⊢
  have hk1 : k.size = 1 := by rw [hk]; rfl
  obtain ⟨r, hr⟩ : ∃ r, r = M.putText (M.sealT (k ++ b)) := ⟨_, rfl⟩
  have hrs : r.size ≤ 20011 := by rw [hr]; exact M.putText_size _
  have CJ : Hid (∀ W, Calls Try.prog 72 #[.string k, .string b] W fun e w' => e = .returned (.string (k ++ b)) ∧ Below W.heap.size W w') := fun W => joined_any k b W (by omega) (by omega)
  have CS : Hid (∀ W, Calls Try.prog 71 #[.string (k ++ b)] W fun e w' => e = .returned (.string (M.sealT (k ++ b))) ∧ Below W.heap.size W w') := fun W => iSeal_any _ W (by rw [ByteArray.size_append]; unfold maxLen; omega)
  have CP : Hid (∀ W, Calls Try.prog 70 #[.string (M.sealT (k ++ b))] W fun e w' => e = .returned (.string r) ∧ Below W.heap.size W w') := fun W => by rw [hr]; exact iPutText_any _ W (by have := M.sealT_size (k ++ b); unfold maxLen; omega)
  have HE : Hid (M.logMore log (k ++ b) = if 20000 < (log ++ r).size then log else log ++ r) := by rw [hr]; rfl
  have CJ2 : Hid (∀ W, Calls Try.prog 72 #[.string log, .string r] W fun e w' => e = .returned (.string (log ++ r)) ∧ Below W.heap.size W w') := fun W => joined_any log r W (by omega) (by omega)
  have HBO : Hid (∀ o, Below w.heap.size w (w.alloc o)) := fun o => (Below.refl _ _).alloc (Nat.le_refl _) _
  have HKB : Hid (∀ v : ByteArray, k = v → v = k) := fun v h => h.symm
  clear hr
  generalize M.sealT (k ++ b) = sl at CS CP
  clear hk h0 h9
  go_enter Try.func41, Try.ntmps41
  go_wp2_with fail
  refine (CJ.out _).mono ?_
  rintro e w1 ⟨rfl, hb1⟩
  have B1 := M.hl ((HBO.out _).trans (hb1.mono (HBO.out _).size))
  clear hb1
  go_wp2_with fail
  refine (CS.out _).mono ?_
  rintro e w2 ⟨rfl, hb1⟩
  have B2 := M.hl (M.sl B1.out hb1)
  clear hb1
  go_wp2_with fail
  refine (CP.out _).mono ?_
  rintro e w3 ⟨rfl, hb1⟩
  have B3 := M.hl (M.sl B2.out hb1)
  clear hb1
  by_cases hlong : 20000 < log.size + r.size
  · have HE2 : Hid (M.logMore log (k ++ b) = log) := by show _ = _; rw [HE.out, ByteArray.size_append, if_pos hlong]
    have d1 : decide (20000 < (log.size : Int) + (r.size : Int)) = true := decide_eq_true (by omega)
    go_wp2_with fail
    refine (iCloneT_any log w3 (by omega)).mono ?_
    rintro e w4 ⟨rfl, hb1⟩
    have B4 := M.hl (M.sl B3.out hb1)
    clear hb1
    go_wp2
    go_ret
    exact ⟨by rw [HE2.out]; rfl, B4.out⟩
  · have HE2 : Hid (M.logMore log (k ++ b) = log ++ r) := by show _ = _; rw [HE.out, ByteArray.size_append, if_neg hlong]
    have d1 : decide (20000 < (log.size : Int) + (r.size : Int)) = false := decide_eq_false (by omega)
    go_wp2_with fail
    refine (CJ2.out w3).mono ?_
    rintro e w4 ⟨rfl, hb1⟩
    have B4 := M.hl (M.sl B3.out hb1)
    clear hb1
    go_wp2
    go_ret
    exact ⟨by rw [HE2.out]; rfl, B4.out⟩

set_option maxRecDepth 100000 in
set_option maxHeartbeats 800000 in
theorem sL08Add_any (log b : ByteArray) (w : World) (hl : log.size ≤ 20000) (hb : b.size ≤ 100001) :
    Calls Try.prog 36 #[.string log, .string b] w fun e w' => e = .returned (.string (M.logMore log b)) ∧ Below w.heap.size w w' := by
  obtain ⟨r, hr⟩ : ∃ r, r = M.putText (M.sealT b) := ⟨_, rfl⟩
  have hrs : r.size ≤ 20011 := by rw [hr]; exact M.putText_size _
  have CS : Hid (∀ W, Calls Try.prog 61 #[.string b] W fun e w' => e = .returned (.string (M.sealT b)) ∧ Below W.heap.size W w') := fun W => sSeal_any _ W (by unfold maxLen; omega)
  have CP : Hid (∀ W, Calls Try.prog 60 #[.string (M.sealT b)] W fun e w' => e = .returned (.string r) ∧ Below W.heap.size W w') := fun W => by rw [hr]; exact sPutText_any _ W (by have := M.sealT_size b; unfold maxLen; omega)
  have HE : Hid (M.logMore log b = if 20000 < (log ++ r).size then log else log ++ r) := by rw [hr]; rfl
  have hz : (log ++ r).size = log.size + r.size := ByteArray.size_append
  have had := fun W => run_string_add_sum (P := Try.prog) (w := W) log r (by omega)
  clear hr
  generalize M.sealT b = sl at CS CP
  go_enter Try.func36, Try.ntmps36
  go_wp2_with fail
  refine (CS.out _).mono ?_
  rintro e w2 ⟨rfl, hb1⟩
  have B2 := M.hl hb1
  clear hb1
  go_wp2_with fail
  refine (CP.out _).mono ?_
  rintro e w3 ⟨rfl, hb1⟩
  have B3 := M.hl (M.sl B2.out hb1)
  clear hb1
  by_cases hlong : 20000 < (log ++ r).size
  · have HE2 : Hid (M.logMore log b = log) := by show _ = _; rw [HE.out, if_pos hlong]
    have d1 : decide (20000 < ((log ++ r).size : Int)) = true := decide_eq_true (by omega)
    go_wp2
    go_ret
    exact ⟨by rw [HE2.out]; rfl, B3.out⟩
  · have HE2 : Hid (M.logMore log b = log ++ r) := by show _ = _; rw [HE.out, if_neg hlong]
    have d1 : decide (20000 < ((log ++ r).size : Int)) = false := decide_eq_false (by omega)
    go_wp2
    go_ret
    exact ⟨by rw [HE2.out]; rfl, B3.out⟩
end Go.Proofs.Ytcoppfmigpdglab
