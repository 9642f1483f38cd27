/-
  For every list of files the law of Pack returns true.
-/
import Derived.Test.YtbmbcfnlpbbapahDoorIPackT
import Derived.Test.YtbmbcfnlpbbapahDoorToF
import Derived.WalkKit
import Derived.WalkSpells
import Derived.WalkLawsBesides
namespace Go.Proofs.YtbmbcfnlpbbapahDoor
open Go.RowKit

set_option maxRecDepth 100000 in
set_option maxHeartbeats 1600000 in
theorem fnExactPack_walk (a0 : Option Addr) (len0 cap0 : Nat) (fs0 : List M.FileD) (w : World) (h0 : M.Files w a0 len0 cap0 fs0) (ok0 : ∀ f ∈ fs0, M.fok f) (hm : M.ml w) (hw : M.pw w) (ht : M.tz w) :
    Calls Tryd.prog 5 #[.slice a0 len0 cap0] w fun e w' => e = .returned (.bool true) ∧ Below w.heap.size w w' := by
  have H0 : Hid (M.Files w a0 len0 cap0 fs0) := h0
  have O0 : Hid (∀ f ∈ fs0, M.fok f) := ok0
  have HM : Hid (M.ml w ∧ M.pw w ∧ M.tz w) := ⟨hm, hw, ht⟩
  clear h0 ok0 hm hw ht
  obtain ⟨s, hs⟩ : ∃ s, s = M.packB fs0 := ⟨_, rfl⟩
  have HS : Hid (s = M.packB fs0) := hs
  clear hs
  go_enter Tryd.func5, Tryd.ntmps5
  go_wp2_with fail
  refine (szFileS_any w a0 len0 cap0 fs0 1048576 H0.out O0.out (by omega) (by omega)).mono ?_
  rintro e w1 ⟨v, rfl, hv1, hv2, hb⟩
  have HV2 : Hid (0 ≤ v → (len0 : Int) ≤ 1048576 ∧ ∀ f ∈ fs0, (f.path.size : Int) + f.data.size ≤ 1048576) := hv2
  have B1 : Hid (Below w.heap.size w w1) := hb
  clear hv2 hb
  by_cases hneg : v < 0
  · go_wp2
    go_ret
    exact ⟨rfl, B1.out⟩
  have hl0 := (HV2.out (by omega)).1
  clear HV2
  go_wp2_with fail
  refine (toF_any w1 a0 len0 cap0 fs0 (H0.out.below B1.out) (by omega)).mono ?_
  rintro e w3 ⟨b3, rfl, hf3, hb⟩
  have F3 : Hid (M.Files w3 (some ⟨b3, 0, none⟩) len0 len0 fs0) := hf3
  have B3 : Hid (Below w.heap.size w w3) := B1.out.trans (hb.mono B1.out.size)
  clear hf3 hb B1
  go_wp2_with fail
  refine (sPack_any w3 _ len0 len0 fs0 F3.out O0.out).mono ?_
  rintro e w5 ⟨rfl, hb⟩
  rw [← HS.out]
  have B5 : Hid (Below w.heap.size w w5) := B3.out.trans (hb.mono B3.out.size)
  clear hb B3 F3
  go_wp2_with fail
  refine (toF_any w5 a0 len0 cap0 fs0 (H0.out.below B5.out) (by omega)).mono ?_
  rintro e w6 ⟨b6, rfl, hf6, hb⟩
  have F6 : Hid (M.Files w6 (some ⟨b6, 0, none⟩) len0 len0 fs0) := hf6
  have B6 : Hid (Below w.heap.size w w6) := B5.out.trans (hb.mono B5.out.size)
  clear hf6 hb B5
  go_wp2_with fail
  refine (iPack_any w6 _ len0 len0 fs0 F6.out O0.out (M.ml_below HM.out.1 B6.out) (HM.out.2.1.below B6.out) (HM.out.2.2.below B6.out)).mono ?_
  rintro e w8 ⟨rfl, hb⟩
  rw [← HS.out]
  have F8 : Hid (M.Files w8 (some ⟨b6, 0, none⟩) len0 len0 fs0) := F6.out.below hb
  have B8 : Hid (Below w.heap.size w w8) := B6.out.trans (hb.mono B6.out.size)
  clear hb B6 F6 HS
  go_wp2_with fail
  refine (toF_any w8 a0 len0 cap0 fs0 (H0.out.below B8.out) (by omega)).mono ?_
  rintro e w9 ⟨b9, rfl, hf9, hb⟩
  have F9 : Hid (M.Files w9 (some ⟨b9, 0, none⟩) len0 len0 fs0) := hf9
  have F89 : Hid (M.Files w9 (some ⟨b6, 0, none⟩) len0 len0 fs0) := F8.out.below hb
  have B9 : Hid (Below w.heap.size w w9) := B8.out.trans (hb.mono B8.out.size)
  clear hf9 hb B8 F8
  go_wp2_with fail
  refine (eqFileS_any w9 _ _ len0 len0 len0 len0 fs0 fs0 F89.out F9.out).mono ?_
  rintro e w10 ⟨u, rfl, hu, hb⟩
  obtain rfl : u = true := hu.2 rfl
  have B10 : Hid (Below w.heap.size w w10) := B9.out.trans (hb.mono B9.out.size)
  clear hu hb B9 F89 F9
  go_wp2
  go_ret
  exact ⟨rfl, B10.out⟩
end Go.Proofs.YtbmbcfnlpbbapahDoor
