/-
  For every two lists of files the law of TreeSame returns true.
-/
import Derived.Test.YtbmbcfnlpbbapagSameWalks
import Derived.WalkKit
import Derived.WalkSpells
import Derived.WalkLawsBesides
namespace Go.Proofs.Ytbmbcfnlpbbapag
open Go.RowKit

theorem toF_any (w : World) (a : Option Addr) (len cap : Nat) (fs : List M.FileD) (h : M.Files w a len cap fs) (hlen : len ≤ 1048576) :
    Calls Try.prog 6 #[.slice a len cap] w fun e w' => ∃ b, e = .returned (.slice (some ⟨b, 0, none⟩) len len) ∧ M.Files w' (some ⟨b, 0, none⟩) len len fs ∧ Below w.heap.size w w' := by
  refine (toFileS_any w a len cap fs h hlen).mono ?_
  rintro e w' ⟨rfl, hat, _, hb⟩
  exact ⟨_, rfl, ⟨h.1, Nat.le_refl _, by unfold maxLen; omega, fun _ => ⟨_, 0, rfl, hat⟩⟩, hb⟩

set_option maxRecDepth 100000 in
set_option maxHeartbeats 1600000 in
theorem fnExactTreeSame_walk (a0 : Option Addr) (len0 cap0 : Nat) (fs0 : List M.FileD) (a1 : Option Addr) (len1 cap1 : Nat) (fs1 : List M.FileD) (w : World)
    (h0 : M.Files w a0 len0 cap0 fs0) (ok0 : ∀ f ∈ fs0, M.fok f) (h1 : M.Files w a1 len1 cap1 fs1) (ok1 : ∀ f ∈ fs1, M.fok f) :
    Calls Try.prog 3 #[.slice a0 len0 cap0, .slice a1 len1 cap1] w fun e w' => e = .returned (.bool true) ∧ Below w.heap.size w w' := by
  have H0 : Hid (M.Files w a0 len0 cap0 fs0) := h0
  have H1 : Hid (M.Files w a1 len1 cap1 fs1) := h1
  have O0 : Hid (∀ f ∈ fs0, M.fok f) := ok0
  have O1 : Hid (∀ f ∈ fs1, M.fok f) := ok1
  clear h0 h1 ok0 ok1
  go_enter Try.func3, Try.ntmps3
  go_wp2_with fail
  refine (szFileS_any w a0 len0 cap0 fs0 1048576 H0.out O0.out (by omega) (by omega)).mono ?_
  rintro e w1 ⟨v, rfl, hv1, hv2, hb⟩
  have HV2 : Hid (0 ≤ v → (len0 : Int) ≤ 1048576 ∧ ∀ f ∈ fs0, (f.path.size : Int) + f.data.size ≤ 1048576) := hv2
  have B1 : Hid (Below w.heap.size w w1) := hb
  clear hv2 hb
  by_cases hneg : v < 0
  · go_wp2
    go_ret
    exact ⟨rfl, B1.out⟩
  have hl0 := (HV2.out (by omega)).1
  clear HV2
  go_wp2_with fail
  refine (szFileS_any w1 a1 len1 cap1 fs1 v (H1.out.below B1.out) O1.out (by omega) (by omega)).mono ?_
  rintro e w2 ⟨v2, rfl, hv3, hv4, hb⟩
  have HV4 : Hid (0 ≤ v2 → (len1 : Int) ≤ v ∧ ∀ f ∈ fs1, (f.path.size : Int) + f.data.size ≤ v) := hv4
  have B2 : Hid (Below w.heap.size w w2) := B1.out.trans (hb.mono B1.out.size)
  clear hv4 hb B1
  by_cases hneg2 : v2 < 0
  · go_wp2
    go_ret
    exact ⟨rfl, B2.out⟩
  have hl1 := (HV4.out (by omega)).1
  clear HV4
  go_wp2_with fail
  refine (toF_any w2 a0 len0 cap0 fs0 (H0.out.below B2.out) (by omega)).mono ?_
  rintro e w3 ⟨b3, rfl, hf3, hb⟩
  have F3 : Hid (M.Files w3 (some ⟨b3, 0, none⟩) len0 len0 fs0) := hf3
  have B3 : Hid (Below w.heap.size w w3) := B2.out.trans (hb.mono B2.out.size)
  clear hf3 hb B2
  go_wp2_with fail
  refine (toF_any w3 a1 len1 cap1 fs1 (H1.out.below B3.out) (by omega)).mono ?_
  rintro e w4 ⟨b4, rfl, hf4, hb⟩
  have F4 : Hid (M.Files w4 (some ⟨b4, 0, none⟩) len1 len1 fs1) := hf4
  have F34 : Hid (M.Files w4 (some ⟨b3, 0, none⟩) len0 len0 fs0) := F3.out.below hb
  have B4 : Hid (Below w.heap.size w w4) := B3.out.trans (hb.mono B3.out.size)
  clear hf4 hb B3 F3
  go_wp2_with fail
  refine (sSame_any w4 _ _ len0 len0 len1 len1 fs0 fs1 F34.out F4.out).mono ?_
  rintro e w5 ⟨s, rfl, hs, hb⟩
  have HS : Hid (s = true ↔ len0 ≤ 400 ∧ len1 ≤ 400 ∧ fs0 = fs1) := hs
  have B5 : Hid (Below w.heap.size w w5) := B4.out.trans (hb.mono B4.out.size)
  clear hs hb B4 F34 F4
  go_wp2_with fail
  refine (toF_any w5 a0 len0 cap0 fs0 (H0.out.below B5.out) (by omega)).mono ?_
  rintro e w6 ⟨b6, rfl, hf6, hb⟩
  have F6 : Hid (M.Files w6 (some ⟨b6, 0, none⟩) len0 len0 fs0) := hf6
  have B6 : Hid (Below w.heap.size w w6) := B5.out.trans (hb.mono B5.out.size)
  clear hf6 hb B5
  go_wp2_with fail
  refine (toF_any w6 a1 len1 cap1 fs1 (H1.out.below B6.out) (by omega)).mono ?_
  rintro e w7 ⟨b7, rfl, hf7, hb⟩
  have F7 : Hid (M.Files w7 (some ⟨b7, 0, none⟩) len1 len1 fs1) := hf7
  have F67 : Hid (M.Files w7 (some ⟨b6, 0, none⟩) len0 len0 fs0) := F6.out.below hb
  have B7 : Hid (Below w.heap.size w w7) := B6.out.trans (hb.mono B6.out.size)
  clear hf7 hb B6 F6
  go_wp2_with fail
  refine (iSame_any w7 _ _ len0 len0 len1 len1 fs0 fs1 F67.out F7.out).mono ?_
  rintro e w8 ⟨t, rfl, ht, hb⟩
  obtain rfl : s = t := Bool.eq_iff_iff.2 (HS.out.trans ht.symm)
  have F8 : Hid (M.Files w8 (some ⟨b7, 0, none⟩) len1 len1 fs1) := F7.out.below hb
  have F68 : Hid (M.Files w8 (some ⟨b6, 0, none⟩) len0 len0 fs0) := F67.out.below hb
  have B8 : Hid (Below w.heap.size w w8) := B7.out.trans (hb.mono B7.out.size)
  clear ht hb B7 F7 F67 HS
  have dd : (s != s) = false := by simp
  go_wp2_with fail
  refine (toF_any w8 a0 len0 cap0 fs0 (H0.out.below B8.out) (by omega)).mono ?_
  rintro e w9 ⟨b9, rfl, hf9, hb⟩
  have F9 : Hid (M.Files w9 (some ⟨b9, 0, none⟩) len0 len0 fs0) := hf9
  have F89 : Hid (M.Files w9 (some ⟨b7, 0, none⟩) len1 len1 fs1) := F8.out.below hb
  have F69 : Hid (M.Files w9 (some ⟨b6, 0, none⟩) len0 len0 fs0) := F68.out.below hb
  have B9 : Hid (Below w.heap.size w w9) := B8.out.trans (hb.mono B8.out.size)
  clear hf9 hb B8 F8 F68
  go_wp2_with fail
  refine (eqFileS_any w9 _ _ len0 len0 len0 len0 fs0 fs0 F69.out F9.out).mono ?_
  rintro e w10 ⟨u, rfl, hu, hb⟩
  obtain rfl : u = true := hu.2 rfl
  have F10 : Hid (M.Files w10 (some ⟨b7, 0, none⟩) len1 len1 fs1) := F89.out.below hb
  have B10 : Hid (Below w.heap.size w w10) := B9.out.trans (hb.mono B9.out.size)
  clear hu hb B9 F89 F69 F9
  go_wp2_with fail
  refine (toF_any w10 a1 len1 cap1 fs1 (H1.out.below B10.out) (by omega)).mono ?_
  rintro e w11 ⟨b11, rfl, hf11, hb⟩
  have F11 : Hid (M.Files w11 (some ⟨b11, 0, none⟩) len1 len1 fs1) := hf11
  have F101 : Hid (M.Files w11 (some ⟨b7, 0, none⟩) len1 len1 fs1) := F10.out.below hb
  have B11 : Hid (Below w.heap.size w w11) := B10.out.trans (hb.mono B10.out.size)
  clear hf11 hb B10 F10
  go_wp2_with fail
  refine (eqFileS_any w11 _ _ len1 len1 len1 len1 fs1 fs1 F101.out F11.out).mono ?_
  rintro e w12 ⟨u, rfl, hu, hb⟩
  obtain rfl : u = true := hu.2 rfl
  have B12 : Hid (Below w.heap.size w w12) := B11.out.trans (hb.mono B11.out.size)
  clear hu hb B11 F101 F11
  go_wp2
  go_ret
  exact ⟨rfl, B12.out⟩
end Go.Proofs.Ytbmbcfnlpbbapag
