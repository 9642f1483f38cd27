/-
  What recordOf and recordEntry of the program do at a long name.
-/
import Derived.Test.YtephjmlcbpfnaaaGreatDoorPart16
import Derived.Test.YtephjmlcbpfnaaaGreatDoorPart18
import Derived.Test.YtephjmlcbpfnaaaGreatDoorWide
import Derived.Test.YtephjmlcbpfnaaaGreatDoorPart10
import Derived.Lib.SmallJoins
import Derived.Lib.AppendIntMem
namespace Go.Proofs.YtephjmlcbpfnaaaGreatDoor
open Go.RowKit

/-- The library's table of the powers of ten is as it was laid. -/
def M.pw (w : World) : Prop := Lib.TabIs Tryz.prog w "internal/strconv.uint64pow10" .u64 Lib.pow10Tab
theorem M.pw.below {w w' : World} (h : M.pw w) (hb : Below w.heap.size w w') : M.pw w' :=
  Joins.tab_stays (show Tryz.prog.globalNamed "internal/strconv.uint64pow10" = some 2 by kernel_rfl) h hb (Nat.le_refl _)
theorem iItoa_any (n : Nat) (w : World) (h1 : 100 ≤ n) (h2 : n ≤ 999) (hw : M.pw w) :
    Calls Tryz.prog 173 #[.int .i64 n] w fun e w' => e = .returned (.string (M.decB n)) ∧ Below w.heap.size w w' :=
  (Tryz.strconv_Itoa n (by omega) (by omega) w hw).mono fun e w' ⟨he, k, os, hw'⟩ => ⟨by rw [he, Lib.itoa_nonneg]; rfl, by rw [hw']; exact Lib.below_grow _ _ (Nat.le_refl _) _ _⟩

set_option maxRecDepth 100000 in
set_option maxHeartbeats 600000 in
theorem iRec_any (p : ByteArray) (w : World) (h1 : 100 < p.size) (h2 : p.size ≤ 900) (hw : M.pw w) :
    Calls Tryz.prog 148 #[.string p] w fun e w' => e = .returned (.string (M.recB p)) ∧ Below w.heap.size w w' := by
  have HD : Hid (∀ (n : Nat) W, 100 ≤ n → n ≤ 999 → Below w.heap.size w W → Calls Tryz.prog 173 #[.int .i64 n] W fun e w' => ∃ t : ByteArray, Hid (t = M.decB n) ∧ t.size = 3 ∧ e = .returned (.string t) ∧ Below w.heap.size w w') := fun n W a b hb => (iItoa_any n W a b (hw.below hb)).mono fun e w' h => ⟨_, rfl, M.decB_size a b, h.1, M.s1i hb h.2⟩
  obtain ⟨r, hr⟩ : ∃ r, r = (⟨#[32, 112, 97, 116, 104, 61]⟩ : ByteArray) ++ p ++ ⟨#[10]⟩ := ⟨_, rfl⟩
  have hz : r.size = p.size + 7 := by rw [hr]; exact M.restB_size p
  have HE : Hid (∀ t, t = M.decB (p.size + 10) → t ++ r = M.recB p) := fun t ht => by rw [ht, hr]; rfl
  have hr' : (⟨#[32, 112, 97, 116, 104, 61]⟩ : ByteArray) ++ p ++ ⟨#[10]⟩ = r := hr.symm
  clear hr hw
  go_enter Tryz.func148, Tryz.ntmps148
  go_wp2
  go_loopw [4] (fun x wr => ∃ k : Nat, x = .int .i64 k ∧ (k = p.size + 7 ∨ k = p.size + 10) ∧ Hid (Below w.heap.size w wr)) (fun x _ => p.size + 10 - (intOf x).toNat)
  case atStart => exact ⟨p.size + 7, by go_num, .inl rfl, Below.refl _ _⟩
  case round =>
    obtain ⟨k, rfl, hk, HB⟩ := hrel
    rcases hk with rfl | rfl
    · have d1 : ((p.size : Int) + 7 != (p.size : Int) + 7 + 3) = true := by rw [bne_iff_ne]; omega
      go_wp2_with fail
      refine (HD.out (p.size + 7) _ (by omega) (by omega) HB.out).mono ?_
      rintro e w1 ⟨t, _, ht, rfl, hb⟩
      have HB1 : Hid (Below w.heap.size w w1) := hb
      clear hb HB
      go_wp2_with fail
      refine (HD.out (p.size + 7) _ (by omega) (by omega) HB1.out).mono ?_
      rintro e w2 ⟨u, _, hu, rfl, hb⟩
      have HB2 : Hid (Below w.heap.size w w2) := hb
      clear hb HB1
      go_wp2
      go_roundw
      case rel => exact ⟨p.size + 10, by go_num, .inr rfl, HB2⟩
      case measure => simp [intOf]; omega
    · have d1 : ((p.size : Int) + 10 != (p.size : Int) + 7 + 3) = false := by rw [bne_eq_false_iff_eq]; omega
      go_wp2_with fail
      refine (HD.out (p.size + 10) _ (by omega) (by omega) HB.out).mono ?_
      rintro e w1 ⟨t, _, ht, rfl, hb⟩
      have HB1 : Hid (Below w.heap.size w w1) := hb
      clear hb HB
      go_wp2_with fail
      refine (HD.out (p.size + 10) _ (by omega) (by omega) HB1.out).mono ?_
      rintro e w2 ⟨u, hu, hu3, rfl, hb⟩
      have HB2 : Hid (Below w.heap.size w w2) := hb
      have HF : Hid (M.recB p = u ++ r) := (HE.out u hu.out).symm
      clear hb HB1 hu
      go_wp2
      go_ret
      exact ⟨by rw [HF.out]; rfl, HB2.out⟩

end Go.Proofs.YtephjmlcbpfnaaaGreatDoor

/-
  What recordEntry of the program does at a long name.
-/
namespace Go.Proofs.YtephjmlcbpfnaaaGreatDoor
open Go.RowKit

set_option maxRecDepth 100000 in
set_option maxHeartbeats 300000 in
theorem iPax_any (p : ByteArray) (w : World) (h1 : 100 < p.size) (h2 : p.size ≤ 151) (hw : M.pw w) (ht : M.tz w) :
    Calls Tryz.prog 97 #[.string p] w fun e w' => e = .returned (.string (M.paxB p)) ∧ Below w.heap.size w w' := by
  have HR : Hid (Calls Tryz.prog 148 #[.string p] w fun e w' => e = .returned (.string (M.recB p)) ∧ Below w.heap.size w w') := iRec_any p w h1 (by omega) hw
  have HPx : Hid (∀ (s : Nat) W, s ≤ 9000 → Below w.heap.size w W → Calls Tryz.prog 98 #[.string ⟨#[112, 97, 120]⟩, .int .i64 s, .int .i64 420, .int .i64 0, .int .i64 120] W fun e w' => e = .returned (.string (M.head ⟨#[112, 97, 120]⟩ s 420 0 120)) ∧ Below w.heap.size w w') := fun s W a hb =>
    (iHeadOf_yes ⟨#[112, 97, 120]⟩ s 420 0 120 W (by decide) (by omega) (by decide) (by decide) (by decide) (ht.below hb)).mono fun e w' h => ⟨h.1, M.s1i hb h.2⟩
  have HFl : Hid (∀ (t : ByteArray) W, t.size ≤ 100000 → Below w.heap.size w W → Calls Tryz.prog 100 #[.string t] W fun e w' => e = .returned (.string (M.fillB t)) ∧ Below w.heap.size w w') := fun t W a hb => (iFill_any t W a).mono fun e w' h => ⟨h.1, M.s1i hb h.2⟩
  have hrs := M.recB_size (p := p) (by omega) (by omega)
  have hps : (M.paxB p).size = 1024 := M.paxB_size h1 h2
  have hpx : M.head ⟨#[112, 97, 120]⟩ (M.recB p).size 420 0 120 ++ M.fillB (M.recB p) = M.paxB p := rfl
  obtain ⟨r, hr⟩ : ∃ r, r = M.recB p := ⟨_, rfl⟩
  have HRE : Hid (r = M.recB p) := hr
  have hrs2 : r.size ≤ 900 := by rw [hr, hrs]; omega
  rw [← hr] at hpx
  clear hrs
  have hh : (M.head ⟨#[112, 97, 120]⟩ r.size 420 0 120).size = 512 := M.head_size (by decide) (by decide) (by omega) (by decide)
  obtain ⟨h1', hh1⟩ : ∃ h1, h1 = M.head ⟨#[112, 97, 120]⟩ r.size 420 0 120 := ⟨_, rfl⟩
  have HH1 : Hid (h1' = M.head ⟨#[112, 97, 120]⟩ r.size 420 0 120) := hh1
  obtain ⟨fr, hfr⟩ : ∃ fr, fr = M.fillB r := ⟨_, rfl⟩
  have HFR : Hid (fr = M.fillB r) := hfr
  rw [← hh1] at hh hpx
  rw [← hfr] at hpx
  have hfs : fr.size ≤ 1024 := by have := congrArg ByteArray.size hpx; rw [ByteArray.size_append] at this; omega
  have HPX : Hid (h1' ++ fr = M.paxB p) := hpx
  clear hr hh1 hfr hpx hps hw ht
  go_enter Tryz.func97, Tryz.ntmps97
  go_wp2_with fail
  refine HR.out.mono ?_
  rintro e w1 ⟨rfl, hb1⟩
  rw [← HRE.out]
  have HB1 : Hid (Below w.heap.size w w1) := hb1
  clear hb1
  go_wp2_with fail
  refine (HPx.out r.size _ (by omega) HB1.out).mono ?_
  rintro e w2 ⟨rfl, hb2⟩
  rw [← HH1.out]
  have HB2 : Hid (Below w.heap.size w w2) := hb2
  clear hb2 HB1
  go_wp2_with fail
  refine (HFl.out r _ (by omega) HB2.out).mono ?_
  rintro e w3 ⟨rfl, hb3⟩
  rw [← HFR.out]
  have HB3 : Hid (Below w.heap.size w w3) := hb3
  clear hb3 HB2
  go_wp2
  go_ret
  exact ⟨by rw [← HPX.out]; rfl, HB3.out⟩
end Go.Proofs.YtephjmlcbpfnaaaGreatDoor

/-
  What entryOf of the program does at a right file.
-/
namespace Go.Proofs.YtephjmlcbpfnaaaGreatDoor
open Go.RowKit

theorem M.nil_appI (x : ByteArray) : (⟨#[]⟩ : ByteArray) ++ x = x := by
  apply ByteArray.ext; simp [ByteArray.data_append]

set_option maxRecDepth 100000 in
set_option maxHeartbeats 800000 in
theorem iEntry_any (f : M.FileD) (w : World) (hp : f.path.size ≤ 150) (hm : 0 ≤ f.mode ∧ f.mode ≤ 4095) (ht : 0 ≤ f.time ∧ f.time ≤ 1000000000) (hd : f.data.size ≤ 1200) (hw : M.pw w) (htz : M.tz w) :
    Calls Tryz.prog 73 #[M.fval f] w fun e w' => e = .returned (.string (M.entryB f)) ∧ Below w.heap.size w w' := by
  obtain ⟨path, dir, mode, time, data⟩ := f
  obtain ⟨m, rfl⟩ : ∃ m : Nat, mode = m := ⟨mode.toNat, by simp only at hm; omega⟩
  obtain ⟨n, rfl⟩ : ∃ n : Nat, time = n := ⟨time.toNat, by simp only at ht; omega⟩
  simp only at hp hm ht hd
  have HHd : Hid (∀ (name : ByteArray) (s k : Nat) W, name.size ≤ 100 → s ≤ 9000 → k ≤ 255 → Below w.heap.size w W → Calls Tryz.prog 98 #[.string name, .int .i64 s, .int .i64 m, .int .i64 n, .int .i64 k] W fun e w' => e = .returned (.string (M.head name s m n k)) ∧ Below W.heap.size W w') := fun name s k W a b c hb => iHeadOf_yes name s m n k W a (by omega) (by omega) (by omega) c (htz.below hb)
  have HPx : Hid (∀ (p : ByteArray) W, 100 < p.size → p.size ≤ 151 → Below w.heap.size w W → Calls Tryz.prog 97 #[.string p] W fun e w' => e = .returned (.string (M.paxB p)) ∧ Below W.heap.size W w') := fun p W a b hb => iPax_any p W a b (hw.below hb) (htz.below hb)
  have HFl : Hid (∀ (t : ByteArray) W, t.size ≤ 100000 → Calls Tryz.prog 100 #[.string t] W fun e w' => e = .returned (.string (M.fillB t)) ∧ Below W.heap.size W w') := fun t W a => iFill_any t W a
  have hfd := M.fillB_le hd
  obtain ⟨fd, hfe⟩ : ∃ fd, fd = M.fillB data := ⟨_, rfl⟩
  have HFD : Hid (fd = M.fillB data) := hfe
  rw [← hfe] at hfd
  clear hfe hw htz
  cases dir
  · show Calls Tryz.prog 73 #[.agg #[.string path, .bool false, .int .i64 (m : Int), .int .i64 (n : Int), .string data]] w _
    obtain ⟨nm, hnme⟩ : ∃ nm, nm = M.fullB path false := ⟨_, rfl⟩
    have HNM : Hid (nm = M.fullB path false) := hnme
    have HN : Hid (∀ W, Calls Tryz.prog 96 #[.agg #[.string path, .bool false, .int .i64 (m : Int), .int .i64 (n : Int), .string data]] W fun e w' => e = .returned (.string nm) ∧ Below W.heap.size W w') := fun W => by rw [hnme]; exact iName_any path false m n data W hp
    have HK : Hid (∀ W, Calls Tryz.prog 99 #[.agg #[.string path, .bool false, .int .i64 (m : Int), .int .i64 (n : Int), .string data]] W fun e w' => e = .returned (.int .i64 48) ∧ Below W.heap.size W w') := fun W => iKind_any path false m n data W
    have hnm : nm.size ≤ 151 := by rw [hnme]; exact M.fullB_size path false hp
    clear hnme
    by_cases hl : 100 < nm.size
    · have HEn : Hid (M.entryB ⟨path, false, (m : Int), (n : Int), data⟩ = M.paxB nm ++ M.head (nm.extract 0 100) data.size m n 48 ++ fd) := by
        show _ = _
        unfold M.entryB
        simp only
        rw [← HNM.out, if_pos hl, if_pos hl, HFD.out]
        rfl
      have hx : (nm.extract 0 100).size = 100 := by rw [ByteArray.size_extract]; omega
      have hps : (M.paxB nm).size = 1024 := M.paxB_size hl hnm
      obtain ⟨px, hpx2⟩ : ∃ px, px = M.paxB nm := ⟨_, rfl⟩
      have HPX : Hid (px = M.paxB nm) := hpx2
      rw [← hpx2] at hps HEn
      clear hpx2
      go_enter Tryz.func73, Tryz.ntmps73
      go_wp2_with fail
      refine (HN.out _).mono ?_
      rintro e w1 ⟨rfl, hb1⟩
      have HB1 : Hid (Below (w.alloc (.cells #[.string path, .bool false, .int .i64 (m : Int), .int .i64 (n : Int), .string data] 54)).heap.size (w.alloc (.cells #[.string path, .bool false, .int .i64 (m : Int), .int .i64 (n : Int), .string data] 54)) w1) := hb1
      clear hb1
      go_wp2_with fail
      refine (HPx.out nm _ hl hnm (M.boxed_below HB1.out)).mono ?_
      rintro e w3 ⟨rfl, hb3⟩
      rw [← HPX.out]
      have HB3 : Hid (Below (w.alloc (.cells #[.string path, .bool false, .int .i64 (m : Int), .int .i64 (n : Int), .string data] 54)).heap.size (w.alloc (.cells #[.string path, .bool false, .int .i64 (m : Int), .int .i64 (n : Int), .string data] 54)) w3) := M.s1i HB1.out hb3
      clear hb3 HB1
      have HB0 : Hid (Below w.heap.size w w3) := M.boxed_below HB3.out
      have HC0 : Hid (w3.cell? ⟨w.heap.size, 0, none⟩ = some (.string path) ∧ w3.cell? ⟨w.heap.size, 1, none⟩ = some (.bool false) ∧ w3.cell? ⟨w.heap.size, 2, none⟩ = some (.int .i64 (m : Int)) ∧ w3.cell? ⟨w.heap.size, 3, none⟩ = some (.int .i64 (n : Int)) ∧ w3.cell? ⟨w.heap.size, 4, none⟩ = some (.string data)) :=
        ⟨M.boxed HB3.out 0 _ rfl, M.boxed HB3.out 1 _ rfl, M.boxed HB3.out 2 _ rfl, M.boxed HB3.out 3 _ rfl, M.boxed HB3.out 4 _ rfl⟩
      go_wp2_with fail
      have q0 : ∀ x : M.Wd w3, x.val.cell? ⟨w.heap.size, 0, none⟩ = some (.string path) := M.Wd.cell HC0.out.1
      have q1 : ∀ x : M.Wd w3, x.val.cell? ⟨w.heap.size, 1, none⟩ = some (.bool false) := M.Wd.cell HC0.out.2.1
      have q2 : ∀ x : M.Wd w3, x.val.cell? ⟨w.heap.size, 2, none⟩ = some (.int .i64 (m : Int)) := M.Wd.cell HC0.out.2.2.1
      have q3 : ∀ x : M.Wd w3, x.val.cell? ⟨w.heap.size, 3, none⟩ = some (.int .i64 (n : Int)) := M.Wd.cell HC0.out.2.2.2.1
      have q4 : ∀ x : M.Wd w3, x.val.cell? ⟨w.heap.size, 4, none⟩ = some (.string data) := M.Wd.cell HC0.out.2.2.2.2
      have HX : Hid (∀ x : M.Wd w3, Below w.heap.size w x.val) := fun x => M.s1i HB0.out x.bel
      have hhs : (M.head (nm.extract 0 100) data.size m n 48).size = 512 := M.head_size (by omega) (by omega) (by omega) (by omega)
      have C1 : Hid (∀ x : M.Wd w3, Calls Tryz.prog 98 #[.string (nm.extract 0 100), .int .i64 data.size, .int .i64 m, .int .i64 n, .int .i64 48] x.val fun e w' => e = .returned (.string (M.head (nm.extract 0 100) data.size m n 48)) ∧ Below x.val.heap.size x.val w') := fun x => HHd.out (nm.extract 0 100) data.size 48 x.val (by omega) (by omega) (by decide) (HX.out x)
      have C2 : Hid (∀ x : M.Wd w3, Calls Tryz.prog 100 #[.string data] x.val fun e w' => e = .returned (.string fd) ∧ Below x.val.heap.size x.val w') := fun x => by rw [HFD.out]; exact HFl.out data x.val (by omega)
      have C3 : Hid (∀ x : M.Wd w3, Calls Tryz.prog 99 #[.agg #[.string path, .bool false, .int .i64 (m : Int), .int .i64 (n : Int), .string data]] x.val fun e w' => e = .returned (.int .i64 48) ∧ Below x.val.heap.size x.val w') := fun x => HK.out x.val
      obtain ⟨h2, hh2⟩ : ∃ h2, h2 = M.head (nm.extract 0 100) data.size m n 48 := ⟨_, rfl⟩
      rw [← hh2] at hhs C1 HEn
      clear hh2
      refine M.wp_region_wd (by kernel_rfl) (by kernel_rfl) (fun _ => ?_)
      repeat (first | go_big_quiet_skip | (go_big_quiet_want; go_big_quiet_op; first | go_big_quiet_on | (apply Exists.intro; refine ⟨fun x => ?_, ?_⟩; (first | exact M.Wd.call x (C3.out x) | exact M.Wd.call x (C1.out x) | exact M.Wd.call x (C2.out x)); go_big_quiet_on)))
      refine wpQuiet_nil ?_
      intro w9 hw'
      have HB9 : Hid (Below w.heap.size w w9) := by obtain ⟨x, rfl⟩ := hw'; exact HX.out x
      clear hw' q0 q1 q2 q3 q4
      go_wp2
      go_ret
      exact ⟨by rw [HEn.out]; rfl, HB9.out⟩
    · have HEn : Hid (M.entryB ⟨path, false, (m : Int), (n : Int), data⟩ = M.head nm data.size m n 48 ++ fd) := by
        show _ = _
        unfold M.entryB
        simp only
        rw [← HNM.out, if_neg hl, if_neg hl, HFD.out, M.nil_appI]
        rfl
      have hl' : nm.size ≤ 100 := by omega
      go_enter Tryz.func73, Tryz.ntmps73
      go_wp2_with fail
      refine (HN.out _).mono ?_
      rintro e w3 ⟨rfl, hb1⟩
      have HB3 : Hid (Below (w.alloc (.cells #[.string path, .bool false, .int .i64 (m : Int), .int .i64 (n : Int), .string data] 54)).heap.size (w.alloc (.cells #[.string path, .bool false, .int .i64 (m : Int), .int .i64 (n : Int), .string data] 54)) w3) := hb1
      clear hb1
      have HB0 : Hid (Below w.heap.size w w3) := M.boxed_below HB3.out
      have HC0 : Hid (w3.cell? ⟨w.heap.size, 0, none⟩ = some (.string path) ∧ w3.cell? ⟨w.heap.size, 1, none⟩ = some (.bool false) ∧ w3.cell? ⟨w.heap.size, 2, none⟩ = some (.int .i64 (m : Int)) ∧ w3.cell? ⟨w.heap.size, 3, none⟩ = some (.int .i64 (n : Int)) ∧ w3.cell? ⟨w.heap.size, 4, none⟩ = some (.string data)) :=
        ⟨M.boxed HB3.out 0 _ rfl, M.boxed HB3.out 1 _ rfl, M.boxed HB3.out 2 _ rfl, M.boxed HB3.out 3 _ rfl, M.boxed HB3.out 4 _ rfl⟩
      go_wp2_with fail
      have q0 : ∀ x : M.Wd w3, x.val.cell? ⟨w.heap.size, 0, none⟩ = some (.string path) := M.Wd.cell HC0.out.1
      have q1 : ∀ x : M.Wd w3, x.val.cell? ⟨w.heap.size, 1, none⟩ = some (.bool false) := M.Wd.cell HC0.out.2.1
      have q2 : ∀ x : M.Wd w3, x.val.cell? ⟨w.heap.size, 2, none⟩ = some (.int .i64 (m : Int)) := M.Wd.cell HC0.out.2.2.1
      have q3 : ∀ x : M.Wd w3, x.val.cell? ⟨w.heap.size, 3, none⟩ = some (.int .i64 (n : Int)) := M.Wd.cell HC0.out.2.2.2.1
      have q4 : ∀ x : M.Wd w3, x.val.cell? ⟨w.heap.size, 4, none⟩ = some (.string data) := M.Wd.cell HC0.out.2.2.2.2
      have HX : Hid (∀ x : M.Wd w3, Below w.heap.size w x.val) := fun x => M.s1i HB0.out x.bel
      have hhs : (M.head nm data.size m n 48).size = 512 := M.head_size (by omega) (by omega) (by omega) (by omega)
      have C1 : Hid (∀ x : M.Wd w3, Calls Tryz.prog 98 #[.string nm, .int .i64 data.size, .int .i64 m, .int .i64 n, .int .i64 48] x.val fun e w' => e = .returned (.string (M.head nm data.size m n 48)) ∧ Below x.val.heap.size x.val w') := fun x => HHd.out nm data.size 48 x.val (by omega) (by omega) (by decide) (HX.out x)
      have C2 : Hid (∀ x : M.Wd w3, Calls Tryz.prog 100 #[.string data] x.val fun e w' => e = .returned (.string fd) ∧ Below x.val.heap.size x.val w') := fun x => by rw [HFD.out]; exact HFl.out data x.val (by omega)
      have C3 : Hid (∀ x : M.Wd w3, Calls Tryz.prog 99 #[.agg #[.string path, .bool false, .int .i64 (m : Int), .int .i64 (n : Int), .string data]] x.val fun e w' => e = .returned (.int .i64 48) ∧ Below x.val.heap.size x.val w') := fun x => HK.out x.val
      obtain ⟨h2, hh2⟩ : ∃ h2, h2 = M.head nm data.size m n 48 := ⟨_, rfl⟩
      rw [← hh2] at hhs C1 HEn
      clear hh2
      refine M.wp_region_wd (by kernel_rfl) (by kernel_rfl) (fun _ => ?_)
      repeat (first | go_big_quiet_skip | (go_big_quiet_want; go_big_quiet_op; first | go_big_quiet_on | (apply Exists.intro; refine ⟨fun x => ?_, ?_⟩; (first | exact M.Wd.call x (C3.out x) | exact M.Wd.call x (C1.out x) | exact M.Wd.call x (C2.out x)); go_big_quiet_on)))
      refine wpQuiet_nil ?_
      intro w9 hw'
      have HB9 : Hid (Below w.heap.size w w9) := by obtain ⟨x, rfl⟩ := hw'; exact HX.out x
      clear hw' q0 q1 q2 q3 q4
      go_wp2
      go_ret
      exact ⟨by rw [HEn.out]; rfl, HB9.out⟩
  · show Calls Tryz.prog 73 #[.agg #[.string path, .bool true, .int .i64 (m : Int), .int .i64 (n : Int), .string data]] w _
    obtain ⟨nm, hnme⟩ : ∃ nm, nm = M.fullB path true := ⟨_, rfl⟩
    have HNM : Hid (nm = M.fullB path true) := hnme
    have HN : Hid (∀ W, Calls Tryz.prog 96 #[.agg #[.string path, .bool true, .int .i64 (m : Int), .int .i64 (n : Int), .string data]] W fun e w' => e = .returned (.string nm) ∧ Below W.heap.size W w') := fun W => by rw [hnme]; exact iName_any path true m n data W hp
    have HK : Hid (∀ W, Calls Tryz.prog 99 #[.agg #[.string path, .bool true, .int .i64 (m : Int), .int .i64 (n : Int), .string data]] W fun e w' => e = .returned (.int .i64 53) ∧ Below W.heap.size W w') := fun W => iKind_any path true m n data W
    have hnm : nm.size ≤ 151 := by rw [hnme]; exact M.fullB_size path true hp
    clear hnme
    by_cases hl : 100 < nm.size
    · have HEn : Hid (M.entryB ⟨path, true, (m : Int), (n : Int), data⟩ = M.paxB nm ++ M.head (nm.extract 0 100) data.size m n 53 ++ fd) := by
        show _ = _
        unfold M.entryB
        simp only
        rw [← HNM.out, if_pos hl, if_pos hl, HFD.out]
        rfl
      have hx : (nm.extract 0 100).size = 100 := by rw [ByteArray.size_extract]; omega
      have hps : (M.paxB nm).size = 1024 := M.paxB_size hl hnm
      obtain ⟨px, hpx2⟩ : ∃ px, px = M.paxB nm := ⟨_, rfl⟩
      have HPX : Hid (px = M.paxB nm) := hpx2
      rw [← hpx2] at hps HEn
      clear hpx2
      go_enter Tryz.func73, Tryz.ntmps73
      go_wp2_with fail
      refine (HN.out _).mono ?_
      rintro e w1 ⟨rfl, hb1⟩
      have HB1 : Hid (Below (w.alloc (.cells #[.string path, .bool true, .int .i64 (m : Int), .int .i64 (n : Int), .string data] 54)).heap.size (w.alloc (.cells #[.string path, .bool true, .int .i64 (m : Int), .int .i64 (n : Int), .string data] 54)) w1) := hb1
      clear hb1
      go_wp2_with fail
      refine (HPx.out nm _ hl hnm (M.boxed_below HB1.out)).mono ?_
      rintro e w3 ⟨rfl, hb3⟩
      rw [← HPX.out]
      have HB3 : Hid (Below (w.alloc (.cells #[.string path, .bool true, .int .i64 (m : Int), .int .i64 (n : Int), .string data] 54)).heap.size (w.alloc (.cells #[.string path, .bool true, .int .i64 (m : Int), .int .i64 (n : Int), .string data] 54)) w3) := M.s1i HB1.out hb3
      clear hb3 HB1
      have HB0 : Hid (Below w.heap.size w w3) := M.boxed_below HB3.out
      have HC0 : Hid (w3.cell? ⟨w.heap.size, 0, none⟩ = some (.string path) ∧ w3.cell? ⟨w.heap.size, 1, none⟩ = some (.bool true) ∧ w3.cell? ⟨w.heap.size, 2, none⟩ = some (.int .i64 (m : Int)) ∧ w3.cell? ⟨w.heap.size, 3, none⟩ = some (.int .i64 (n : Int)) ∧ w3.cell? ⟨w.heap.size, 4, none⟩ = some (.string data)) :=
        ⟨M.boxed HB3.out 0 _ rfl, M.boxed HB3.out 1 _ rfl, M.boxed HB3.out 2 _ rfl, M.boxed HB3.out 3 _ rfl, M.boxed HB3.out 4 _ rfl⟩
      go_wp2_with fail
      have q0 : ∀ x : M.Wd w3, x.val.cell? ⟨w.heap.size, 0, none⟩ = some (.string path) := M.Wd.cell HC0.out.1
      have q1 : ∀ x : M.Wd w3, x.val.cell? ⟨w.heap.size, 1, none⟩ = some (.bool true) := M.Wd.cell HC0.out.2.1
      have q2 : ∀ x : M.Wd w3, x.val.cell? ⟨w.heap.size, 2, none⟩ = some (.int .i64 (m : Int)) := M.Wd.cell HC0.out.2.2.1
      have q3 : ∀ x : M.Wd w3, x.val.cell? ⟨w.heap.size, 3, none⟩ = some (.int .i64 (n : Int)) := M.Wd.cell HC0.out.2.2.2.1
      have q4 : ∀ x : M.Wd w3, x.val.cell? ⟨w.heap.size, 4, none⟩ = some (.string data) := M.Wd.cell HC0.out.2.2.2.2
      have HX : Hid (∀ x : M.Wd w3, Below w.heap.size w x.val) := fun x => M.s1i HB0.out x.bel
      have hhs : (M.head (nm.extract 0 100) data.size m n 53).size = 512 := M.head_size (by omega) (by omega) (by omega) (by omega)
      have C1 : Hid (∀ x : M.Wd w3, Calls Tryz.prog 98 #[.string (nm.extract 0 100), .int .i64 data.size, .int .i64 m, .int .i64 n, .int .i64 53] x.val fun e w' => e = .returned (.string (M.head (nm.extract 0 100) data.size m n 53)) ∧ Below x.val.heap.size x.val w') := fun x => HHd.out (nm.extract 0 100) data.size 53 x.val (by omega) (by omega) (by decide) (HX.out x)
      have C2 : Hid (∀ x : M.Wd w3, Calls Tryz.prog 100 #[.string data] x.val fun e w' => e = .returned (.string fd) ∧ Below x.val.heap.size x.val w') := fun x => by rw [HFD.out]; exact HFl.out data x.val (by omega)
      have C3 : Hid (∀ x : M.Wd w3, Calls Tryz.prog 99 #[.agg #[.string path, .bool true, .int .i64 (m : Int), .int .i64 (n : Int), .string data]] x.val fun e w' => e = .returned (.int .i64 53) ∧ Below x.val.heap.size x.val w') := fun x => HK.out x.val
      obtain ⟨h2, hh2⟩ : ∃ h2, h2 = M.head (nm.extract 0 100) data.size m n 53 := ⟨_, rfl⟩
      rw [← hh2] at hhs C1 HEn
      clear hh2
      refine M.wp_region_wd (by kernel_rfl) (by kernel_rfl) (fun _ => ?_)
      repeat (first | go_big_quiet_skip | (go_big_quiet_want; go_big_quiet_op; first | go_big_quiet_on | (apply Exists.intro; refine ⟨fun x => ?_, ?_⟩; (first | exact M.Wd.call x (C3.out x) | exact M.Wd.call x (C1.out x) | exact M.Wd.call x (C2.out x)); go_big_quiet_on)))
      refine wpQuiet_nil ?_
      intro w9 hw'
      have HB9 : Hid (Below w.heap.size w w9) := by obtain ⟨x, rfl⟩ := hw'; exact HX.out x
      clear hw' q0 q1 q2 q3 q4
      go_wp2
      go_ret
      exact ⟨by rw [HEn.out]; rfl, HB9.out⟩
    · have HEn : Hid (M.entryB ⟨path, true, (m : Int), (n : Int), data⟩ = M.head nm data.size m n 53 ++ fd) := by
        show _ = _
        unfold M.entryB
        simp only
        rw [← HNM.out, if_neg hl, if_neg hl, HFD.out, M.nil_appI]
        rfl
      have hl' : nm.size ≤ 100 := by omega
      go_enter Tryz.func73, Tryz.ntmps73
      go_wp2_with fail
      refine (HN.out _).mono ?_
      rintro e w3 ⟨rfl, hb1⟩
      have HB3 : Hid (Below (w.alloc (.cells #[.string path, .bool true, .int .i64 (m : Int), .int .i64 (n : Int), .string data] 54)).heap.size (w.alloc (.cells #[.string path, .bool true, .int .i64 (m : Int), .int .i64 (n : Int), .string data] 54)) w3) := hb1
      clear hb1
      have HB0 : Hid (Below w.heap.size w w3) := M.boxed_below HB3.out
      have HC0 : Hid (w3.cell? ⟨w.heap.size, 0, none⟩ = some (.string path) ∧ w3.cell? ⟨w.heap.size, 1, none⟩ = some (.bool true) ∧ w3.cell? ⟨w.heap.size, 2, none⟩ = some (.int .i64 (m : Int)) ∧ w3.cell? ⟨w.heap.size, 3, none⟩ = some (.int .i64 (n : Int)) ∧ w3.cell? ⟨w.heap.size, 4, none⟩ = some (.string data)) :=
        ⟨M.boxed HB3.out 0 _ rfl, M.boxed HB3.out 1 _ rfl, M.boxed HB3.out 2 _ rfl, M.boxed HB3.out 3 _ rfl, M.boxed HB3.out 4 _ rfl⟩
      go_wp2_with fail
      have q0 : ∀ x : M.Wd w3, x.val.cell? ⟨w.heap.size, 0, none⟩ = some (.string path) := M.Wd.cell HC0.out.1
      have q1 : ∀ x : M.Wd w3, x.val.cell? ⟨w.heap.size, 1, none⟩ = some (.bool true) := M.Wd.cell HC0.out.2.1
      have q2 : ∀ x : M.Wd w3, x.val.cell? ⟨w.heap.size, 2, none⟩ = some (.int .i64 (m : Int)) := M.Wd.cell HC0.out.2.2.1
      have q3 : ∀ x : M.Wd w3, x.val.cell? ⟨w.heap.size, 3, none⟩ = some (.int .i64 (n : Int)) := M.Wd.cell HC0.out.2.2.2.1
      have q4 : ∀ x : M.Wd w3, x.val.cell? ⟨w.heap.size, 4, none⟩ = some (.string data) := M.Wd.cell HC0.out.2.2.2.2
      have HX : Hid (∀ x : M.Wd w3, Below w.heap.size w x.val) := fun x => M.s1i HB0.out x.bel
      have hhs : (M.head nm data.size m n 53).size = 512 := M.head_size (by omega) (by omega) (by omega) (by omega)
      have C1 : Hid (∀ x : M.Wd w3, Calls Tryz.prog 98 #[.string nm, .int .i64 data.size, .int .i64 m, .int .i64 n, .int .i64 53] x.val fun e w' => e = .returned (.string (M.head nm data.size m n 53)) ∧ Below x.val.heap.size x.val w') := fun x => HHd.out nm data.size 53 x.val (by omega) (by omega) (by decide) (HX.out x)
      have C2 : Hid (∀ x : M.Wd w3, Calls Tryz.prog 100 #[.string data] x.val fun e w' => e = .returned (.string fd) ∧ Below x.val.heap.size x.val w') := fun x => by rw [HFD.out]; exact HFl.out data x.val (by omega)
      have C3 : Hid (∀ x : M.Wd w3, Calls Tryz.prog 99 #[.agg #[.string path, .bool true, .int .i64 (m : Int), .int .i64 (n : Int), .string data]] x.val fun e w' => e = .returned (.int .i64 53) ∧ Below x.val.heap.size x.val w') := fun x => HK.out x.val
      obtain ⟨h2, hh2⟩ : ∃ h2, h2 = M.head nm data.size m n 53 := ⟨_, rfl⟩
      rw [← hh2] at hhs C1 HEn
      clear hh2
      refine M.wp_region_wd (by kernel_rfl) (by kernel_rfl) (fun _ => ?_)
      repeat (first | go_big_quiet_skip | (go_big_quiet_want; go_big_quiet_op; first | go_big_quiet_on | (apply Exists.intro; refine ⟨fun x => ?_, ?_⟩; (first | exact M.Wd.call x (C3.out x) | exact M.Wd.call x (C1.out x) | exact M.Wd.call x (C2.out x)); go_big_quiet_on)))
      refine wpQuiet_nil ?_
      intro w9 hw'
      have HB9 : Hid (Below w.heap.size w w9) := by obtain ⟨x, rfl⟩ := hw'; exact HX.out x
      clear hw' q0 q1 q2 q3 q4
      go_wp2
      go_ret
      exact ⟨by rw [HEn.out]; rfl, HB9.out⟩
end Go.Proofs.YtephjmlcbpfnaaaGreatDoor

/-
  What Pack of the program does.
-/
namespace Go.Proofs.YtephjmlcbpfnaaaGreatDoor
open Go.RowKit

theorem M.hid' {p : Prop} (h : p) : Hid p := h

set_option maxRecDepth 100000 in
set_option maxHeartbeats 1200000 in
theorem iPack_any (w : World) (a : Option Addr) (len cap : Nat) (fs : List M.FileD) (h : M.Files w a len cap fs) (hok : ∀ f ∈ fs, M.fok f) (hm : M.ml w) (hw : M.pw w) (ht : M.tz w) :
    Calls Tryz.prog 41 #[.slice a len cap] w fun e w' => e = .returned (.string (M.packB fs)) ∧ Below w.heap.size w w' := by
  have hlm : len ≤ 9223372036854775807 := by obtain ⟨_, h1, h2, _⟩ := h; unfold maxLen at h2; omega
  have HFL : Hid (len = fs.length) := h.1
  have HF : Hid (M.Files w a len cap fs) := h
  have HOK : Hid (∀ f ∈ fs, M.fok f) := hok
  have HM : Hid (M.ml w ∧ M.pw w ∧ M.tz w) := ⟨hm, hw, ht⟩
  obtain ⟨i0, hi, hz0, hz1, hz2⟩ := info_parts Tryz.infoB8
  clear h hok hm hw ht
  by_cases h20 : 20 < len
  · have hE : Hid (M.packB fs = ⟨#[]⟩) := M.packB_no (by rw [← HFL.out]; omega)
    go_enter Tryz.func41, Tryz.ntmps41
    go_wp2
    go_ret
    exact ⟨by rw [hE.out]; rfl, Below.refl _ _⟩
  have d20 : decide (20 < (len : Int)) = false := decide_eq_false (by omega)
  go_enter Tryz.func41, Tryz.ntmps41
  go_wp2
  go_loopw [3, 11] (fun v i wr => ∃ (k : Nat) (L : List UInt8), i = .int .i64 k ∧ k ≤ len ∧ L.length ≤ 3072 * k ∧ Hid (L = M.entriesL (fs.take k)) ∧ Hid (∀ j f, j < k → fs[j]? = some f → M.fileR f = true) ∧ Hid (M.OwnB wr w.heap.size v L) ∧ Hid (Below w.heap.size w wr)) (fun _ i _ => len - (intOf i).toNat)
  case atStart => exact ⟨0, [], rfl, Nat.zero_le _, Nat.le_refl _, rfl, fun j f hj => absurd hj (Nat.not_lt_zero _), ⟨rfl, .inl ⟨rfl, rfl⟩⟩, Below.refl _ _⟩
  case round =>
    obtain ⟨k, L, rfl, hk, hLk, HL, HG, HO, HBr⟩ := hrel
    by_cases hlt : k < len
    · have hfl := HFL.out
      obtain ⟨-, -, -, hfa⟩ := HF.out.below HBr.out
      obtain ⟨b, off, rfl, hat⟩ := hfa (by omega)
      obtain ⟨c0, c1, c2, c3, c4⟩ := hat k (by omega)
      have hfk := List.getElem?_eq_getElem (l := fs) (i := k) (by omega)
      generalize fs[k]'(by omega) = f at c0 c1 c2 c3 c4 hfk
      have HFK : Hid (fs[k]? = some f) := hfk
      have HBx : Hid (Below w.heap.size w (wr.alloc (.cells #[.string f.path, .bool f.dir, .int .i64 f.mode, .int .i64 f.time, .string f.data] 54))) := HBr.out.alloc HBr.out.size _
      have HOx := HO.out.below ((Below.refl wr.heap.size wr).alloc (Nat.le_refl _) (.cells #[.string f.path, .bool f.dir, .int .i64 f.mode, .int .i64 f.time, .string f.data] 54))
      have hC := iFile_any f (wr.alloc (.cells #[.string f.path, .bool f.dir, .int .i64 f.mode, .int .i64 f.time, .string f.data] 54)) (HOK.out f (List.mem_of_getElem? hfk)) (M.ml_below HM.out.1 HBx.out)
      unfold M.fval at hC
      have HOX := M.hid' HOx
      clear HOx
      cases hr : M.fileR f
      · rw [hr] at hC
        have hE : Hid (M.packB fs = ⟨#[]⟩) := M.packB_bad hfk hr
        have HC : Hid (Calls Tryz.prog 72 #[.agg #[.string f.path, .bool f.dir, .int .i64 f.mode, .int .i64 f.time, .string f.data]] (wr.alloc (.cells #[.string f.path, .bool f.dir, .int .i64 f.mode, .int .i64 f.time, .string f.data] 54)) fun e w' => e = .returned (.bool false) ∧ Below (wr.alloc (.cells #[.string f.path, .bool f.dir, .int .i64 f.mode, .int .i64 f.time, .string f.data] 54)).heap.size (wr.alloc (.cells #[.string f.path, .bool f.dir, .int .i64 f.mode, .int .i64 f.time, .string f.data] 54)) w') := hC
        clear hfk hat hfa hfl hC hr
        go_wp2_with fail
        refine HC.out.mono ?_
        rintro e w1 ⟨rfl, hb1⟩
        have HB1 : Hid (Below w.heap.size w w1) := M.s1' HBx.out hb1
        clear hb1
        go_wp2
        go_ret
        exact ⟨by rw [hE.out]; rfl, HB1.out⟩
      · rw [hr] at hC
        have HG2 : Hid (∀ j f, j < k + 1 → fs[j]? = some f → M.fileR f = true) := M.upto_next HG.out hfk hr
        have HRF : Hid (M.fileR f = true) := hr
        have HC : Hid (Calls Tryz.prog 72 #[.agg #[.string f.path, .bool f.dir, .int .i64 f.mode, .int .i64 f.time, .string f.data]] (wr.alloc (.cells #[.string f.path, .bool f.dir, .int .i64 f.mode, .int .i64 f.time, .string f.data] 54)) fun e w' => e = .returned (.bool true) ∧ Below (wr.alloc (.cells #[.string f.path, .bool f.dir, .int .i64 f.mode, .int .i64 f.time, .string f.data] 54)).heap.size (wr.alloc (.cells #[.string f.path, .bool f.dir, .int .i64 f.mode, .int .i64 f.time, .string f.data] 54)) w') := hC
        have hes := M.entryB_size hr
        obtain ⟨en, hen⟩ : ∃ en, en = M.entryB f := ⟨_, rfl⟩
        have HEN : Hid (en = M.entryB f) := hen
        have HCE : Hid (∀ W, Below w.heap.size w W → Calls Tryz.prog 73 #[.agg #[.string f.path, .bool f.dir, .int .i64 f.mode, .int .i64 f.time, .string f.data]] W fun e w' => e = .returned (.string en) ∧ Below W.heap.size W w') := fun W hb => by
          have := iEntry_any f W (M.fileR_bd hr).1 (M.fileR_bd hr).2.1 (M.fileR_bd hr).2.2.1 (M.fileR_bd hr).2.2.2 (HM.out.2.1.below hb) (HM.out.2.2.below hb)
          rw [← hen] at this
          exact this
        rw [← hen] at hes
        clear hfk hat hfa hfl hC hr hen
        go_wp2_with fail
        refine HC.out.mono ?_
        rintro e w1 ⟨rfl, hb1⟩
        have HB1 : Hid (Below w.heap.size w w1) := M.s1' HBx.out hb1
        have HO1 := M.hid' (HOX.out.below hb1)
        have g0 : w1.cell? ⟨wr.heap.size, 0, none⟩ = some (.string f.path) := M.boxed hb1 0 _ rfl
        have g1 : w1.cell? ⟨wr.heap.size, 1, none⟩ = some (.bool f.dir) := M.boxed hb1 1 _ rfl
        have g2 : w1.cell? ⟨wr.heap.size, 2, none⟩ = some (.int .i64 f.mode) := M.boxed hb1 2 _ rfl
        have g3 : w1.cell? ⟨wr.heap.size, 3, none⟩ = some (.int .i64 f.time) := M.boxed hb1 3 _ rfl
        have g4 : w1.cell? ⟨wr.heap.size, 4, none⟩ = some (.string f.data) := M.boxed hb1 4 _ rfl
        clear hb1 c0 c1 c2 c3 c4
        go_wp2_with fail
        refine (HCE.out _ HB1.out).mono ?_
        rintro e w2 ⟨rfl, hb2⟩
        have HO2 := HO1.out.below hb2
        have HB2 : Below w.heap.size w w2 := M.s1' HB1.out hb2
        have hsz2 := HB2.size
        clear hb2 g0 g1 g2 g3 g4
        go_wp2_with (at_builtin; refine Lib.wpList_append_own_string _ rfl (.tmp 18) (.tmp 20) 61 9 rfl w.heap.size 5 i0 Tryz.underlying61 Tryz.underlying9 hi hz0 hz1 hz2 _ _ _ rfl HO2 en rfl ?c1 ?c2 ?c3 ?_)
        case c1 => unfold maxLen; omega
        case c2 => omega
        case c3 => exact hsz2
        intro v' w3 hown' hgrow _
        have HO3 : Hid (M.OwnB w3 w.heap.size v' (L ++ en.data.toList)) := M.OwnB.more hown'
        have HB3 : Hid (Below w.heap.size w w3) := HB2.grown hgrow hsz2 (fun k hk => (World.ownsRow.lt HO2 k hk).1)
        have HL2 : Hid (L ++ en.data.toList = M.entriesL (fs.take (k + 1))) := by show _ = _; rw [M.entriesL_snoc HFK.out, ← HL.out, HEN.out]
        have hl2 : (L ++ en.data.toList).length ≤ 3072 * (k + 1) := by rw [List.length_append, ← Lib.size_eq]; omega
        clear hgrow hown' HO2 HB2 hsz2
        go_wp2
        go_roundw
        case rel => exact ⟨k + 1, L ++ en.data.toList, by go_num, by omega, hl2, HL2, HG2, HO3, HB3⟩
        case measure => simp [intOf]; omega
    · have HA : Hid (∀ f ∈ fs, M.fileR f = true) := M.upto_all HG.out (by rw [← HFL.out]; omega)
      have HE : Hid (⟨(L ++ (M.zerosB 1024).data.toList).toArray⟩ = M.archB fs) := by
        show _ = _
        rw [HL.out, List.take_of_length_le (by rw [← HFL.out]; omega)]
        unfold M.archB
        rw [← M.ba_L, ← M.ba_toL]
      have HZ : Hid (Calls Tryz.prog 74 #[.int .i64 2] wr fun e w' => e = .returned (.string (M.zerosB 1024)) ∧ Below wr.heap.size wr w') := iZBlocks_any 2 wr (by decide)
      have hz : (M.zerosB 1024).size = 1024 := M.zerosB_size _
      have HS : Hid (∀ Y : List UInt8, ⟨Y.toArray⟩ = M.archB fs → (Y.length ≤ 20000 → M.packB fs = ⟨Y.toArray⟩) ∧ (20000 < Y.length → M.packB fs = ⟨#[]⟩)) := fun Y hY => by
        have hs : (M.archB fs).size = Y.length := by rw [← hY, Lib.size_eq]
        exact ⟨fun hh => by rw [hY]; exact M.packB_yes (by rw [← HFL.out]; omega) HA.out (by omega), fun hh => M.packB_no (by omega)⟩
      generalize M.zerosB 1024 = z at hz HE HZ
      go_wp2_with fail
      refine HZ.out.mono ?_
      rintro e w1 ⟨rfl, hb1⟩
      have HO1 := HO.out.below hb1
      have HB1 : Below w.heap.size w w1 := M.s1' HBr.out hb1
      have hsz1 := HB1.size
      clear hb1
      go_wp2_with (at_builtin; refine Lib.wpList_append_own_string _ rfl (.tmp 23) (.tmp 24) 61 9 rfl w.heap.size 5 i0 Tryz.underlying61 Tryz.underlying9 hi hz0 hz1 hz2 _ _ _ rfl HO1 z rfl ?d1 ?d2 ?d3 ?_)
      case d1 => unfold maxLen; omega
      case d2 => omega
      case d3 => exact hsz1
      intro v' w2 hown' hgrow _
      have hO2 : M.OwnB w2 w.heap.size v' (L ++ z.data.toList) := M.OwnB.more (by rw [hz]; exact hown')
      have HB2 : Hid (Below w.heap.size w w2) := HB1.grown hgrow hsz1 (fun k hk => (World.ownsRow.lt HO1 k hk).1)
      have hcv := hO2.conv (Below.refl _ _)
      obtain ⟨a', cap', rfl⟩ := hO2.len
      have hYl : (L ++ z.data.toList).length ≤ 70000 := by rw [List.length_append, ← Lib.size_eq]; omega
      have HY := HS.out _ HE.out
      generalize L ++ z.data.toList = Y at hcv hYl HY
      obtain ⟨y, hy⟩ : ∃ y : ByteArray, y = ⟨Y.toArray⟩ := ⟨_, rfl⟩
      rw [← hy] at hcv HY
      generalize Y.length = q at *
      clear hgrow hown' HO1 HB1 hsz1 hO2 hy
      by_cases h2 : 20000 < q
      · have hE : Hid (M.packB fs = ⟨#[]⟩) := HY.2 h2
        clear HY hcv
        go_wp2
        go_ret
        exact ⟨by rw [hE.out]; rfl, HB2.out⟩
      · have hE : Hid (M.packB fs = y) := HY.1 (by omega)
        clear HY
        go_wp2
        go_ret
        exact ⟨by rw [hE.out]; rfl, HB2.out⟩
end Go.Proofs.YtephjmlcbpfnaaaGreatDoor
