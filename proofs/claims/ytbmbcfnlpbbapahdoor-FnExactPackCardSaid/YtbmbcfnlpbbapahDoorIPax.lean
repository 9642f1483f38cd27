/-
  What recordEntry of the program does at a long name.
-/
import Derived.Test.YtbmbcfnlpbbapahDoorIRec
namespace Go.Proofs.YtbmbcfnlpbbapahDoor
open Go.RowKit

set_option maxRecDepth 100000 in
set_option maxHeartbeats 300000 in
theorem iPax_any (p : ByteArray) (w : World) (h1 : 100 < p.size) (h2 : p.size ≤ 151) (hw : M.pw w) (ht : M.tz w) :
    Calls Tryd.prog 46 #[.string p] w fun e w' => e = .returned (.string (M.paxB p)) ∧ Below w.heap.size w w' := by
  have HR : Hid (Calls Tryd.prog 63 #[.string p] w fun e w' => e = .returned (.string (M.recB p)) ∧ Below w.heap.size w w') := iRec_any p w h1 (by omega) hw
  have HPx : Hid (∀ (s : Nat) W, s ≤ 9000 → Below w.heap.size w W → Calls Tryd.prog 9 #[.string ⟨#[112, 97, 120]⟩, .int .i64 s, .int .i64 420, .int .i64 0, .int .i64 120] W fun e w' => e = .returned (.string (M.head ⟨#[112, 97, 120]⟩ s 420 0 120)) ∧ Below w.heap.size w w') := fun s W a hb =>
    (iHeadOf_yes ⟨#[112, 97, 120]⟩ s 420 0 120 W (by decide) (by omega) (by decide) (by decide) (by decide) (ht.below hb)).mono fun e w' h => ⟨h.1, M.s1i hb h.2⟩
  have HFl : Hid (∀ (t : ByteArray) W, t.size ≤ 100000 → Below w.heap.size w W → Calls Tryd.prog 48 #[.string t] W fun e w' => e = .returned (.string (M.fillB t)) ∧ Below w.heap.size w w') := fun t W a hb => (iFill_any t W a).mono fun e w' h => ⟨h.1, M.s1i hb h.2⟩
  have hrs := M.recB_size (p := p) (by omega) (by omega)
  have hps : (M.paxB p).size = 1024 := M.paxB_size h1 h2
  have hpx : M.head ⟨#[112, 97, 120]⟩ (M.recB p).size 420 0 120 ++ M.fillB (M.recB p) = M.paxB p := rfl
  obtain ⟨r, hr⟩ : ∃ r, r = M.recB p := ⟨_, rfl⟩
  have HRE : Hid (r = M.recB p) := hr
  have hrs2 : r.size ≤ 900 := by rw [hr, hrs]; omega
  rw [← hr] at hpx
  clear hrs
  have hh : (M.head ⟨#[112, 97, 120]⟩ r.size 420 0 120).size = 512 := M.head_size (by decide) (by decide) (by omega) (by decide)
  obtain ⟨h1', hh1⟩ : ∃ h1, h1 = M.head ⟨#[112, 97, 120]⟩ r.size 420 0 120 := ⟨_, rfl⟩
  have HH1 : Hid (h1' = M.head ⟨#[112, 97, 120]⟩ r.size 420 0 120) := hh1
  obtain ⟨fr, hfr⟩ : ∃ fr, fr = M.fillB r := ⟨_, rfl⟩
  have HFR : Hid (fr = M.fillB r) := hfr
  rw [← hh1] at hh hpx
  rw [← hfr] at hpx
  have hfs : fr.size ≤ 1024 := by have := congrArg ByteArray.size hpx; rw [ByteArray.size_append] at this; omega
  have HPX : Hid (h1' ++ fr = M.paxB p) := hpx
  clear hr hh1 hfr hpx hps hw ht
  go_enter Tryd.func46, Tryd.ntmps46
  go_wp2_with fail
  refine HR.out.mono ?_
  rintro e w1 ⟨rfl, hb1⟩
  rw [← HRE.out]
  have HB1 : Hid (Below w.heap.size w w1) := hb1
  clear hb1
  go_wp2_with fail
  refine (HPx.out r.size _ (by omega) HB1.out).mono ?_
  rintro e w2 ⟨rfl, hb2⟩
  rw [← HH1.out]
  have HB2 : Hid (Below w.heap.size w w2) := hb2
  clear hb2 HB1
  go_wp2_with fail
  refine (HFl.out r _ (by omega) HB2.out).mono ?_
  rintro e w3 ⟨rfl, hb3⟩
  rw [← HFR.out]
  have HB3 : Hid (Below w.heap.size w w3) := hb3
  clear hb3 HB2
  go_wp2
  go_ret
  exact ⟨by rw [← HPX.out]; rfl, HB3.out⟩
end Go.Proofs.YtbmbcfnlpbbapahDoor
