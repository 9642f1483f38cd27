/-
  What entryOf of the program does at a right file.
-/
import Derived.Test.YtbmbcfnlpbbapahDoorIPax
import Derived.Test.YtbmbcfnlpbbapahDoorWide
namespace Go.Proofs.YtbmbcfnlpbbapahDoor
open Go.RowKit

theorem M.nil_appI (x : ByteArray) : (⟨#[]⟩ : ByteArray) ++ x = x := by
  apply ByteArray.ext; simp [ByteArray.data_append]

set_option maxRecDepth 100000 in
set_option maxHeartbeats 800000 in
theorem iEntry_any (f : M.FileD) (w : World) (hp : f.path.size ≤ 150) (hm : 0 ≤ f.mode ∧ f.mode ≤ 4095) (ht : 0 ≤ f.time ∧ f.time ≤ 1000000000) (hd : f.data.size ≤ 1200) (hw : M.pw w) (htz : M.tz w) :
    Calls Tryd.prog 27 #[M.fval f] w fun e w' => e = .returned (.string (M.entryB f)) ∧ Below w.heap.size w w' := by
  obtain ⟨path, dir, mode, time, data⟩ := f
  obtain ⟨m, rfl⟩ : ∃ m : Nat, mode = m := ⟨mode.toNat, by simp only at hm; omega⟩
  obtain ⟨n, rfl⟩ : ∃ n : Nat, time = n := ⟨time.toNat, by simp only at ht; omega⟩
  simp only at hp hm ht hd
  have HHd : Hid (∀ (name : ByteArray) (s k : Nat) W, name.size ≤ 100 → s ≤ 9000 → k ≤ 255 → Below w.heap.size w W → Calls Tryd.prog 9 #[.string name, .int .i64 s, .int .i64 m, .int .i64 n, .int .i64 k] W fun e w' => e = .returned (.string (M.head name s m n k)) ∧ Below W.heap.size W w') := fun name s k W a b c hb => iHeadOf_yes name s m n k W a (by omega) (by omega) (by omega) c (htz.below hb)
  have HPx : Hid (∀ (p : ByteArray) W, 100 < p.size → p.size ≤ 151 → Below w.heap.size w W → Calls Tryd.prog 46 #[.string p] W fun e w' => e = .returned (.string (M.paxB p)) ∧ Below W.heap.size W w') := fun p W a b hb => iPax_any p W a b (hw.below hb) (htz.below hb)
  have HFl : Hid (∀ (t : ByteArray) W, t.size ≤ 100000 → Calls Tryd.prog 48 #[.string t] W fun e w' => e = .returned (.string (M.fillB t)) ∧ Below W.heap.size W w') := fun t W a => iFill_any t W a
  have hfd := M.fillB_le hd
  obtain ⟨fd, hfe⟩ : ∃ fd, fd = M.fillB data := ⟨_, rfl⟩
  have HFD : Hid (fd = M.fillB data) := hfe
  rw [← hfe] at hfd
  clear hfe hw htz
  cases dir
  · show Calls Tryd.prog 27 #[.agg #[.string path, .bool false, .int .i64 (m : Int), .int .i64 (n : Int), .string data]] w _
    obtain ⟨nm, hnme⟩ : ∃ nm, nm = M.fullB path false := ⟨_, rfl⟩
    have HNM : Hid (nm = M.fullB path false) := hnme
    have HN : Hid (∀ W, Calls Tryd.prog 45 #[.agg #[.string path, .bool false, .int .i64 (m : Int), .int .i64 (n : Int), .string data]] W fun e w' => e = .returned (.string nm) ∧ Below W.heap.size W w') := fun W => by rw [hnme]; exact iName_any path false m n data W hp
    have HK : Hid (∀ W, Calls Tryd.prog 47 #[.agg #[.string path, .bool false, .int .i64 (m : Int), .int .i64 (n : Int), .string data]] W fun e w' => e = .returned (.int .i64 48) ∧ Below W.heap.size W w') := fun W => iKind_any path false m n data W
    have hnm : nm.size ≤ 151 := by rw [hnme]; exact M.fullB_size path false hp
    clear hnme
    by_cases hl : 100 < nm.size
    · have HEn : Hid (M.entryB ⟨path, false, (m : Int), (n : Int), data⟩ = M.paxB nm ++ M.head (nm.extract 0 100) data.size m n 48 ++ fd) := by
        show _ = _
        unfold M.entryB
        simp only
        rw [← HNM.out, if_pos hl, if_pos hl, HFD.out]
        rfl
      have hx : (nm.extract 0 100).size = 100 := by rw [ByteArray.size_extract]; omega
      have hps : (M.paxB nm).size = 1024 := M.paxB_size hl hnm
      obtain ⟨px, hpx2⟩ : ∃ px, px = M.paxB nm := ⟨_, rfl⟩
      have HPX : Hid (px = M.paxB nm) := hpx2
      rw [← hpx2] at hps HEn
      clear hpx2
      go_enter Tryd.func27, Tryd.ntmps27
      go_wp2_with fail
      refine (HN.out _).mono ?_
      rintro e w1 ⟨rfl, hb1⟩
      have HB1 : Hid (Below (w.alloc (.cells #[.string path, .bool false, .int .i64 (m : Int), .int .i64 (n : Int), .string data] 45)).heap.size (w.alloc (.cells #[.string path, .bool false, .int .i64 (m : Int), .int .i64 (n : Int), .string data] 45)) w1) := hb1
      clear hb1
      go_wp2_with fail
      refine (HPx.out nm _ hl hnm (M.boxed_below HB1.out)).mono ?_
      rintro e w3 ⟨rfl, hb3⟩
      rw [← HPX.out]
      have HB3 : Hid (Below (w.alloc (.cells #[.string path, .bool false, .int .i64 (m : Int), .int .i64 (n : Int), .string data] 45)).heap.size (w.alloc (.cells #[.string path, .bool false, .int .i64 (m : Int), .int .i64 (n : Int), .string data] 45)) w3) := M.s1i HB1.out hb3
      clear hb3 HB1
      have HB0 : Hid (Below w.heap.size w w3) := M.boxed_below HB3.out
      have HC0 : Hid (w3.cell? ⟨w.heap.size, 0, none⟩ = some (.string path) ∧ w3.cell? ⟨w.heap.size, 1, none⟩ = some (.bool false) ∧ w3.cell? ⟨w.heap.size, 2, none⟩ = some (.int .i64 (m : Int)) ∧ w3.cell? ⟨w.heap.size, 3, none⟩ = some (.int .i64 (n : Int)) ∧ w3.cell? ⟨w.heap.size, 4, none⟩ = some (.string data)) :=
        ⟨M.boxed HB3.out 0 _ rfl, M.boxed HB3.out 1 _ rfl, M.boxed HB3.out 2 _ rfl, M.boxed HB3.out 3 _ rfl, M.boxed HB3.out 4 _ rfl⟩
      go_wp2_with fail
      have q0 : ∀ x : M.Wd w3, x.val.cell? ⟨w.heap.size, 0, none⟩ = some (.string path) := M.Wd.cell HC0.out.1
      have q1 : ∀ x : M.Wd w3, x.val.cell? ⟨w.heap.size, 1, none⟩ = some (.bool false) := M.Wd.cell HC0.out.2.1
      have q2 : ∀ x : M.Wd w3, x.val.cell? ⟨w.heap.size, 2, none⟩ = some (.int .i64 (m : Int)) := M.Wd.cell HC0.out.2.2.1
      have q3 : ∀ x : M.Wd w3, x.val.cell? ⟨w.heap.size, 3, none⟩ = some (.int .i64 (n : Int)) := M.Wd.cell HC0.out.2.2.2.1
      have q4 : ∀ x : M.Wd w3, x.val.cell? ⟨w.heap.size, 4, none⟩ = some (.string data) := M.Wd.cell HC0.out.2.2.2.2
      have HX : Hid (∀ x : M.Wd w3, Below w.heap.size w x.val) := fun x => M.s1i HB0.out x.bel
      have hhs : (M.head (nm.extract 0 100) data.size m n 48).size = 512 := M.head_size (by omega) (by omega) (by omega) (by omega)
      have C1 : Hid (∀ x : M.Wd w3, Calls Tryd.prog 9 #[.string (nm.extract 0 100), .int .i64 data.size, .int .i64 m, .int .i64 n, .int .i64 48] x.val fun e w' => e = .returned (.string (M.head (nm.extract 0 100) data.size m n 48)) ∧ Below x.val.heap.size x.val w') := fun x => HHd.out (nm.extract 0 100) data.size 48 x.val (by omega) (by omega) (by decide) (HX.out x)
      have C2 : Hid (∀ x : M.Wd w3, Calls Tryd.prog 48 #[.string data] x.val fun e w' => e = .returned (.string fd) ∧ Below x.val.heap.size x.val w') := fun x => by rw [HFD.out]; exact HFl.out data x.val (by omega)
      have C3 : Hid (∀ x : M.Wd w3, Calls Tryd.prog 47 #[.agg #[.string path, .bool false, .int .i64 (m : Int), .int .i64 (n : Int), .string data]] x.val fun e w' => e = .returned (.int .i64 48) ∧ Below x.val.heap.size x.val w') := fun x => HK.out x.val
      obtain ⟨h2, hh2⟩ : ∃ h2, h2 = M.head (nm.extract 0 100) data.size m n 48 := ⟨_, rfl⟩
      rw [← hh2] at hhs C1 HEn
      clear hh2
      refine M.wp_region_wd (by kernel_rfl) (by kernel_rfl) (fun _ => ?_)
      repeat (first | go_big_quiet_skip | (go_big_quiet_want; go_big_quiet_op; first | go_big_quiet_on | (apply Exists.intro; refine ⟨fun x => ?_, ?_⟩; (first | exact M.Wd.call x (C3.out x) | exact M.Wd.call x (C1.out x) | exact M.Wd.call x (C2.out x)); go_big_quiet_on)))
      refine wpQuiet_nil ?_
      intro w9 hw'
      have HB9 : Hid (Below w.heap.size w w9) := by obtain ⟨x, rfl⟩ := hw'; exact HX.out x
      clear hw' q0 q1 q2 q3 q4
      go_wp2
      go_ret
      exact ⟨by rw [HEn.out]; rfl, HB9.out⟩
    · have HEn : Hid (M.entryB ⟨path, false, (m : Int), (n : Int), data⟩ = M.head nm data.size m n 48 ++ fd) := by
        show _ = _
        unfold M.entryB
        simp only
        rw [← HNM.out, if_neg hl, if_neg hl, HFD.out, M.nil_appI]
        rfl
      have hl' : nm.size ≤ 100 := by omega
      go_enter Tryd.func27, Tryd.ntmps27
      go_wp2_with fail
      refine (HN.out _).mono ?_
      rintro e w3 ⟨rfl, hb1⟩
      have HB3 : Hid (Below (w.alloc (.cells #[.string path, .bool false, .int .i64 (m : Int), .int .i64 (n : Int), .string data] 45)).heap.size (w.alloc (.cells #[.string path, .bool false, .int .i64 (m : Int), .int .i64 (n : Int), .string data] 45)) w3) := hb1
      clear hb1
      have HB0 : Hid (Below w.heap.size w w3) := M.boxed_below HB3.out
      have HC0 : Hid (w3.cell? ⟨w.heap.size, 0, none⟩ = some (.string path) ∧ w3.cell? ⟨w.heap.size, 1, none⟩ = some (.bool false) ∧ w3.cell? ⟨w.heap.size, 2, none⟩ = some (.int .i64 (m : Int)) ∧ w3.cell? ⟨w.heap.size, 3, none⟩ = some (.int .i64 (n : Int)) ∧ w3.cell? ⟨w.heap.size, 4, none⟩ = some (.string data)) :=
        ⟨M.boxed HB3.out 0 _ rfl, M.boxed HB3.out 1 _ rfl, M.boxed HB3.out 2 _ rfl, M.boxed HB3.out 3 _ rfl, M.boxed HB3.out 4 _ rfl⟩
      go_wp2_with fail
      have q0 : ∀ x : M.Wd w3, x.val.cell? ⟨w.heap.size, 0, none⟩ = some (.string path) := M.Wd.cell HC0.out.1
      have q1 : ∀ x : M.Wd w3, x.val.cell? ⟨w.heap.size, 1, none⟩ = some (.bool false) := M.Wd.cell HC0.out.2.1
      have q2 : ∀ x : M.Wd w3, x.val.cell? ⟨w.heap.size, 2, none⟩ = some (.int .i64 (m : Int)) := M.Wd.cell HC0.out.2.2.1
      have q3 : ∀ x : M.Wd w3, x.val.cell? ⟨w.heap.size, 3, none⟩ = some (.int .i64 (n : Int)) := M.Wd.cell HC0.out.2.2.2.1
      have q4 : ∀ x : M.Wd w3, x.val.cell? ⟨w.heap.size, 4, none⟩ = some (.string data) := M.Wd.cell HC0.out.2.2.2.2
      have HX : Hid (∀ x : M.Wd w3, Below w.heap.size w x.val) := fun x => M.s1i HB0.out x.bel
      have hhs : (M.head nm data.size m n 48).size = 512 := M.head_size (by omega) (by omega) (by omega) (by omega)
      have C1 : Hid (∀ x : M.Wd w3, Calls Tryd.prog 9 #[.string nm, .int .i64 data.size, .int .i64 m, .int .i64 n, .int .i64 48] x.val fun e w' => e = .returned (.string (M.head nm data.size m n 48)) ∧ Below x.val.heap.size x.val w') := fun x => HHd.out nm data.size 48 x.val (by omega) (by omega) (by decide) (HX.out x)
      have C2 : Hid (∀ x : M.Wd w3, Calls Tryd.prog 48 #[.string data] x.val fun e w' => e = .returned (.string fd) ∧ Below x.val.heap.size x.val w') := fun x => by rw [HFD.out]; exact HFl.out data x.val (by omega)
      have C3 : Hid (∀ x : M.Wd w3, Calls Tryd.prog 47 #[.agg #[.string path, .bool false, .int .i64 (m : Int), .int .i64 (n : Int), .string data]] x.val fun e w' => e = .returned (.int .i64 48) ∧ Below x.val.heap.size x.val w') := fun x => HK.out x.val
      obtain ⟨h2, hh2⟩ : ∃ h2, h2 = M.head nm data.size m n 48 := ⟨_, rfl⟩
      rw [← hh2] at hhs C1 HEn
      clear hh2
      refine M.wp_region_wd (by kernel_rfl) (by kernel_rfl) (fun _ => ?_)
      repeat (first | go_big_quiet_skip | (go_big_quiet_want; go_big_quiet_op; first | go_big_quiet_on | (apply Exists.intro; refine ⟨fun x => ?_, ?_⟩; (first | exact M.Wd.call x (C3.out x) | exact M.Wd.call x (C1.out x) | exact M.Wd.call x (C2.out x)); go_big_quiet_on)))
      refine wpQuiet_nil ?_
      intro w9 hw'
      have HB9 : Hid (Below w.heap.size w w9) := by obtain ⟨x, rfl⟩ := hw'; exact HX.out x
      clear hw' q0 q1 q2 q3 q4
      go_wp2
      go_ret
      exact ⟨by rw [HEn.out]; rfl, HB9.out⟩
  · show Calls Tryd.prog 27 #[.agg #[.string path, .bool true, .int .i64 (m : Int), .int .i64 (n : Int), .string data]] w _
    obtain ⟨nm, hnme⟩ : ∃ nm, nm = M.fullB path true := ⟨_, rfl⟩
    have HNM : Hid (nm = M.fullB path true) := hnme
    have HN : Hid (∀ W, Calls Tryd.prog 45 #[.agg #[.string path, .bool true, .int .i64 (m : Int), .int .i64 (n : Int), .string data]] W fun e w' => e = .returned (.string nm) ∧ Below W.heap.size W w') := fun W => by rw [hnme]; exact iName_any path true m n data W hp
    have HK : Hid (∀ W, Calls Tryd.prog 47 #[.agg #[.string path, .bool true, .int .i64 (m : Int), .int .i64 (n : Int), .string data]] W fun e w' => e = .returned (.int .i64 53) ∧ Below W.heap.size W w') := fun W => iKind_any path true m n data W
    have hnm : nm.size ≤ 151 := by rw [hnme]; exact M.fullB_size path true hp
    clear hnme
    by_cases hl : 100 < nm.size
    · have HEn : Hid (M.entryB ⟨path, true, (m : Int), (n : Int), data⟩ = M.paxB nm ++ M.head (nm.extract 0 100) data.size m n 53 ++ fd) := by
        show _ = _
        unfold M.entryB
        simp only
        rw [← HNM.out, if_pos hl, if_pos hl, HFD.out]
        rfl
      have hx : (nm.extract 0 100).size = 100 := by rw [ByteArray.size_extract]; omega
      have hps : (M.paxB nm).size = 1024 := M.paxB_size hl hnm
      obtain ⟨px, hpx2⟩ : ∃ px, px = M.paxB nm := ⟨_, rfl⟩
      have HPX : Hid (px = M.paxB nm) := hpx2
      rw [← hpx2] at hps HEn
      clear hpx2
      go_enter Tryd.func27, Tryd.ntmps27
      go_wp2_with fail
      refine (HN.out _).mono ?_
      rintro e w1 ⟨rfl, hb1⟩
      have HB1 : Hid (Below (w.alloc (.cells #[.string path, .bool true, .int .i64 (m : Int), .int .i64 (n : Int), .string data] 45)).heap.size (w.alloc (.cells #[.string path, .bool true, .int .i64 (m : Int), .int .i64 (n : Int), .string data] 45)) w1) := hb1
      clear hb1
      go_wp2_with fail
      refine (HPx.out nm _ hl hnm (M.boxed_below HB1.out)).mono ?_
      rintro e w3 ⟨rfl, hb3⟩
      rw [← HPX.out]
      have HB3 : Hid (Below (w.alloc (.cells #[.string path, .bool true, .int .i64 (m : Int), .int .i64 (n : Int), .string data] 45)).heap.size (w.alloc (.cells #[.string path, .bool true, .int .i64 (m : Int), .int .i64 (n : Int), .string data] 45)) w3) := M.s1i HB1.out hb3
      clear hb3 HB1
      have HB0 : Hid (Below w.heap.size w w3) := M.boxed_below HB3.out
      have HC0 : Hid (w3.cell? ⟨w.heap.size, 0, none⟩ = some (.string path) ∧ w3.cell? ⟨w.heap.size, 1, none⟩ = some (.bool true) ∧ w3.cell? ⟨w.heap.size, 2, none⟩ = some (.int .i64 (m : Int)) ∧ w3.cell? ⟨w.heap.size, 3, none⟩ = some (.int .i64 (n : Int)) ∧ w3.cell? ⟨w.heap.size, 4, none⟩ = some (.string data)) :=
        ⟨M.boxed HB3.out 0 _ rfl, M.boxed HB3.out 1 _ rfl, M.boxed HB3.out 2 _ rfl, M.boxed HB3.out 3 _ rfl, M.boxed HB3.out 4 _ rfl⟩
      go_wp2_with fail
      have q0 : ∀ x : M.Wd w3, x.val.cell? ⟨w.heap.size, 0, none⟩ = some (.string path) := M.Wd.cell HC0.out.1
      have q1 : ∀ x : M.Wd w3, x.val.cell? ⟨w.heap.size, 1, none⟩ = some (.bool true) := M.Wd.cell HC0.out.2.1
      have q2 : ∀ x : M.Wd w3, x.val.cell? ⟨w.heap.size, 2, none⟩ = some (.int .i64 (m : Int)) := M.Wd.cell HC0.out.2.2.1
      have q3 : ∀ x : M.Wd w3, x.val.cell? ⟨w.heap.size, 3, none⟩ = some (.int .i64 (n : Int)) := M.Wd.cell HC0.out.2.2.2.1
      have q4 : ∀ x : M.Wd w3, x.val.cell? ⟨w.heap.size, 4, none⟩ = some (.string data) := M.Wd.cell HC0.out.2.2.2.2
      have HX : Hid (∀ x : M.Wd w3, Below w.heap.size w x.val) := fun x => M.s1i HB0.out x.bel
      have hhs : (M.head (nm.extract 0 100) data.size m n 53).size = 512 := M.head_size (by omega) (by omega) (by omega) (by omega)
      have C1 : Hid (∀ x : M.Wd w3, Calls Tryd.prog 9 #[.string (nm.extract 0 100), .int .i64 data.size, .int .i64 m, .int .i64 n, .int .i64 53] x.val fun e w' => e = .returned (.string (M.head (nm.extract 0 100) data.size m n 53)) ∧ Below x.val.heap.size x.val w') := fun x => HHd.out (nm.extract 0 100) data.size 53 x.val (by omega) (by omega) (by decide) (HX.out x)
      have C2 : Hid (∀ x : M.Wd w3, Calls Tryd.prog 48 #[.string data] x.val fun e w' => e = .returned (.string fd) ∧ Below x.val.heap.size x.val w') := fun x => by rw [HFD.out]; exact HFl.out data x.val (by omega)
      have C3 : Hid (∀ x : M.Wd w3, Calls Tryd.prog 47 #[.agg #[.string path, .bool true, .int .i64 (m : Int), .int .i64 (n : Int), .string data]] x.val fun e w' => e = .returned (.int .i64 53) ∧ Below x.val.heap.size x.val w') := fun x => HK.out x.val
      obtain ⟨h2, hh2⟩ : ∃ h2, h2 = M.head (nm.extract 0 100) data.size m n 53 := ⟨_, rfl⟩
      rw [← hh2] at hhs C1 HEn
      clear hh2
      refine M.wp_region_wd (by kernel_rfl) (by kernel_rfl) (fun _ => ?_)
      repeat (first | go_big_quiet_skip | (go_big_quiet_want; go_big_quiet_op; first | go_big_quiet_on | (apply Exists.intro; refine ⟨fun x => ?_, ?_⟩; (first | exact M.Wd.call x (C3.out x) | exact M.Wd.call x (C1.out x) | exact M.Wd.call x (C2.out x)); go_big_quiet_on)))
      refine wpQuiet_nil ?_
      intro w9 hw'
      have HB9 : Hid (Below w.heap.size w w9) := by obtain ⟨x, rfl⟩ := hw'; exact HX.out x
      clear hw' q0 q1 q2 q3 q4
      go_wp2
      go_ret
      exact ⟨by rw [HEn.out]; rfl, HB9.out⟩
    · have HEn : Hid (M.entryB ⟨path, true, (m : Int), (n : Int), data⟩ = M.head nm data.size m n 53 ++ fd) := by
        show _ = _
        unfold M.entryB
        simp only
        rw [← HNM.out, if_neg hl, if_neg hl, HFD.out, M.nil_appI]
        rfl
      have hl' : nm.size ≤ 100 := by omega
      go_enter Tryd.func27, Tryd.ntmps27
      go_wp2_with fail
      refine (HN.out _).mono ?_
      rintro e w3 ⟨rfl, hb1⟩
      have HB3 : Hid (Below (w.alloc (.cells #[.string path, .bool true, .int .i64 (m : Int), .int .i64 (n : Int), .string data] 45)).heap.size (w.alloc (.cells #[.string path, .bool true, .int .i64 (m : Int), .int .i64 (n : Int), .string data] 45)) w3) := hb1
      clear hb1
      have HB0 : Hid (Below w.heap.size w w3) := M.boxed_below HB3.out
      have HC0 : Hid (w3.cell? ⟨w.heap.size, 0, none⟩ = some (.string path) ∧ w3.cell? ⟨w.heap.size, 1, none⟩ = some (.bool true) ∧ w3.cell? ⟨w.heap.size, 2, none⟩ = some (.int .i64 (m : Int)) ∧ w3.cell? ⟨w.heap.size, 3, none⟩ = some (.int .i64 (n : Int)) ∧ w3.cell? ⟨w.heap.size, 4, none⟩ = some (.string data)) :=
        ⟨M.boxed HB3.out 0 _ rfl, M.boxed HB3.out 1 _ rfl, M.boxed HB3.out 2 _ rfl, M.boxed HB3.out 3 _ rfl, M.boxed HB3.out 4 _ rfl⟩
      go_wp2_with fail
      have q0 : ∀ x : M.Wd w3, x.val.cell? ⟨w.heap.size, 0, none⟩ = some (.string path) := M.Wd.cell HC0.out.1
      have q1 : ∀ x : M.Wd w3, x.val.cell? ⟨w.heap.size, 1, none⟩ = some (.bool true) := M.Wd.cell HC0.out.2.1
      have q2 : ∀ x : M.Wd w3, x.val.cell? ⟨w.heap.size, 2, none⟩ = some (.int .i64 (m : Int)) := M.Wd.cell HC0.out.2.2.1
      have q3 : ∀ x : M.Wd w3, x.val.cell? ⟨w.heap.size, 3, none⟩ = some (.int .i64 (n : Int)) := M.Wd.cell HC0.out.2.2.2.1
      have q4 : ∀ x : M.Wd w3, x.val.cell? ⟨w.heap.size, 4, none⟩ = some (.string data) := M.Wd.cell HC0.out.2.2.2.2
      have HX : Hid (∀ x : M.Wd w3, Below w.heap.size w x.val) := fun x => M.s1i HB0.out x.bel
      have hhs : (M.head nm data.size m n 53).size = 512 := M.head_size (by omega) (by omega) (by omega) (by omega)
      have C1 : Hid (∀ x : M.Wd w3, Calls Tryd.prog 9 #[.string nm, .int .i64 data.size, .int .i64 m, .int .i64 n, .int .i64 53] x.val fun e w' => e = .returned (.string (M.head nm data.size m n 53)) ∧ Below x.val.heap.size x.val w') := fun x => HHd.out nm data.size 53 x.val (by omega) (by omega) (by decide) (HX.out x)
      have C2 : Hid (∀ x : M.Wd w3, Calls Tryd.prog 48 #[.string data] x.val fun e w' => e = .returned (.string fd) ∧ Below x.val.heap.size x.val w') := fun x => by rw [HFD.out]; exact HFl.out data x.val (by omega)
      have C3 : Hid (∀ x : M.Wd w3, Calls Tryd.prog 47 #[.agg #[.string path, .bool true, .int .i64 (m : Int), .int .i64 (n : Int), .string data]] x.val fun e w' => e = .returned (.int .i64 53) ∧ Below x.val.heap.size x.val w') := fun x => HK.out x.val
      obtain ⟨h2, hh2⟩ : ∃ h2, h2 = M.head nm data.size m n 53 := ⟨_, rfl⟩
      rw [← hh2] at hhs C1 HEn
      clear hh2
      refine M.wp_region_wd (by kernel_rfl) (by kernel_rfl) (fun _ => ?_)
      repeat (first | go_big_quiet_skip | (go_big_quiet_want; go_big_quiet_op; first | go_big_quiet_on | (apply Exists.intro; refine ⟨fun x => ?_, ?_⟩; (first | exact M.Wd.call x (C3.out x) | exact M.Wd.call x (C1.out x) | exact M.Wd.call x (C2.out x)); go_big_quiet_on)))
      refine wpQuiet_nil ?_
      intro w9 hw'
      have HB9 : Hid (Below w.heap.size w w9) := by obtain ⟨x, rfl⟩ := hw'; exact HX.out x
      clear hw' q0 q1 q2 q3 q4
      go_wp2
      go_ret
      exact ⟨by rw [HEn.out]; rfl, HB9.out⟩
end Go.Proofs.YtbmbcfnlpbbapahDoor
