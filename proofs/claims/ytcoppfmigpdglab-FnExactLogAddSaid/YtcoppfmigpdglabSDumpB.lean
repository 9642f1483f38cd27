/-
  What DumpBytes of the specification does.
-/
import Derived.Test.YtcoppfmigpdglabDBytesMath
import Derived.Test.YtcoppfmigpdglabNumWalks
import Derived.Test.YtcoppfmigpdglabTextWalks
import Derived.Test.YtcoppfmigpdglabSDumpR
import Derived.Test.YtcoppfmigpdglabDumpSW
import Derived.Test.YtcoppfmigpdglabWide
namespace Go.Proofs.Ytcoppfmigpdglab
open Go.RowKit

set_option maxRecDepth 100000 in
set_option maxHeartbeats 3200000 in
theorem sDumpB_any (w : World) (x1 : Int) (hs : ByteArray) (x2 x3 x4 x5 x6 x7 : Int) (a : Option Addr) (n c : Nat) (ps : List M.PartD) (h : M.Pts w a n c ps) (hz : hs.size ≤ maxLen) :
    Calls Try.prog 37 #[.agg #[.int .i64 x1, .string hs, .int .i64 x2, .int .i64 x3, .int .i64 x4, .int .i64 x5, .int .i64 x6, .int .i64 x7, .slice a n c]] w fun e w' => e = .returned (.string (M.dumpT ⟨x1, hs, x2, x3, x4, x5, x6, x7, ps⟩)) ∧ Below w.heap.size w w' := by
  have hlm := h.max
  have HF := M.hl h
  have HN : Hid (n = ps.length) := h.1
  have HB : Hid (∀ o, Below w.heap.size w (w.alloc o)) := fun o => (Below.refl _ _).alloc (Nat.le_refl _) _
  have CR : Hid (∀ o, Calls Try.prog 24 #[.agg #[.int .i64 x1, .string hs, .int .i64 x2, .int .i64 x3, .int .i64 x4, .int .i64 x5, .int .i64 x6, .int .i64 x7, .slice a n c]] (w.alloc o) fun e w' => e = .returned (.bool (M.dumpR ⟨x1, hs, x2, x3, x4, x5, x6, x7, ps⟩)) ∧ Below (w.alloc o).heap.size (w.alloc o) w') := fun o => sDumpR_any _ x1 hs x2 x3 x4 x5 x6 x7 a n c ps (h.below (HB.out o)) hz
  clear h
  cases hr : M.dumpR ⟨x1, hs, x2, x3, x4, x5, x6, x7, ps⟩
  · have HE : Hid (M.dumpT ⟨x1, hs, x2, x3, x4, x5, x6, x7, ps⟩ = ⟨#[]⟩) := by show _ = _; unfold M.dumpT; rw [hr]; rfl
    rw [hr] at CR
    rw [HE.out]
    clear HE hr
    go_enter Try.func37, Try.ntmps37
    go_wp2_with fail
    refine (CR.out _).mono ?_
    rintro e w1 ⟨rfl, hb⟩
    have B1 := M.hl ((HB.out _).trans (hb.mono (HB.out _).size))
    clear hb
    go_wp2
    go_ret
    exact ⟨rfl, B1.out⟩
  have HE : Hid (M.dumpT ⟨x1, hs, x2, x3, x4, x5, x6, x7, ps⟩ = ⟨(M.dumpL ⟨x1, hs, x2, x3, x4, x5, x6, x7, ps⟩).toArray⟩) := by show _ = _; unfold M.dumpT; rw [hr]; rfl
  obtain ⟨n1, n2, n3, n4, n5, n6, n7⟩ := M.dumpR_nums hr
  obtain ⟨hp8, hpr⟩ := M.dumpR_parts hr
  have hh20 := M.nameR_len (M.dumpR_host hr)
  simp only at n1 n2 n3 n4 n5 n6 n7 hp8 hpr hh20
  have HPR := M.hl hpr
  have hn8 : n ≤ 8 := by have := HN.out; omega
  rw [hr] at CR
  have C0 : Hid (∀ W, Calls Try.prog 45 #[.int .i64 x1] W fun e w' => e = .returned (.string (M.num x1)) ∧ Below W.heap.size W w') := fun W => sPutNum_any x1 W (by omega) (by omega)
  have C1 : Hid (∀ W, Calls Try.prog 60 #[.string hs] W fun e w' => e = .returned (.string (M.putText hs)) ∧ Below W.heap.size W w') := fun W => sPutText_any hs W hz
  have C2 : Hid (∀ W, Calls Try.prog 45 #[.int .i64 x2] W fun e w' => e = .returned (.string (M.num x2)) ∧ Below W.heap.size W w') := fun W => sPutNum_any x2 W (by omega) (by omega)
  have C3 : Hid (∀ W, Calls Try.prog 45 #[.int .i64 x3] W fun e w' => e = .returned (.string (M.num x3)) ∧ Below W.heap.size W w') := fun W => sPutNum_any x3 W (by omega) (by omega)
  have C4 : Hid (∀ W, Calls Try.prog 45 #[.int .i64 x4] W fun e w' => e = .returned (.string (M.num x4)) ∧ Below W.heap.size W w') := fun W => sPutNum_any x4 W (by omega) (by omega)
  have C5 : Hid (∀ W, Calls Try.prog 45 #[.int .i64 x5] W fun e w' => e = .returned (.string (M.num x5)) ∧ Below W.heap.size W w') := fun W => sPutNum_any x5 W (by omega) (by omega)
  have C6 : Hid (∀ W, Calls Try.prog 45 #[.int .i64 x6] W fun e w' => e = .returned (.string (M.num x6)) ∧ Below W.heap.size W w') := fun W => sPutNum_any x6 W (by omega) (by omega)
  have C7 : Hid (∀ W, Calls Try.prog 45 #[.int .i64 x7] W fun e w' => e = .returned (.string (M.num x7)) ∧ Below W.heap.size W w') := fun W => sPutNum_any x7 W (by omega) (by omega)
  have C8 : Hid (∀ W, Calls Try.prog 45 #[.int .i64 (n : Int)] W fun e w' => e = .returned (.string (M.num (n : Int))) ∧ Below W.heap.size W w') := fun W => sPutNum_any (n : Int) W (by omega) (by omega)
  have z0 := M.num_size x1
  have z1 := M.putText_size2 hs
  have z2 := M.num_size x2
  have z3 := M.num_size x3
  have z4 := M.num_size x4
  have z5 := M.num_size x5
  have z6 := M.num_size x6
  have z7 := M.num_size x7
  have z8 := M.num_size (n : Int)
  have HHD : Hid (((((((((M.num x1 ++ M.putText hs) ++ M.num x2) ++ M.num x3) ++ M.num x4) ++ M.num x5) ++ M.num x6) ++ M.num x7) ++ M.num (n : Int)).data.toList = M.dheadL ⟨x1, hs, x2, x3, x4, x5, x6, x7, ps⟩) := by
    show _ = _
    simp only [M.app_toList, M.num_toList]
    unfold M.dheadL M.numsL
    rw [HN.out]
    simp
  clear hr n1 n2 n3 n4 n5 n6 n7 hp8 hpr
  generalize M.num x1 = p0 at C0 z0 HHD
  generalize M.putText hs = p1 at C1 z1 HHD
  generalize M.num x2 = p2 at C2 z2 HHD
  generalize M.num x3 = p3 at C3 z3 HHD
  generalize M.num x4 = p4 at C4 z4 HHD
  generalize M.num x5 = p5 at C5 z5 HHD
  generalize M.num x6 = p6 at C6 z6 HHD
  generalize M.num x7 = p7 at C7 z7 HHD
  generalize M.num (n : Int) = p8 at C8 z8 HHD
  have had1 := fun W => run_string_add_sum (P := Try.prog) (w := W) p0 p1 (by omega)
  have y1 : (p0 ++ p1).size = p0.size + p1.size := ByteArray.size_append
  generalize hq1 : p0 ++ p1 = s1 at had1 y1 HHD
  have had2 := fun W => run_string_add_sum (P := Try.prog) (w := W) s1 p2 (by omega)
  have y2 : (s1 ++ p2).size = s1.size + p2.size := ByteArray.size_append
  generalize hq2 : s1 ++ p2 = s2 at had2 y2 HHD
  have had3 := fun W => run_string_add_sum (P := Try.prog) (w := W) s2 p3 (by omega)
  have y3 : (s2 ++ p3).size = s2.size + p3.size := ByteArray.size_append
  generalize hq3 : s2 ++ p3 = s3 at had3 y3 HHD
  have had4 := fun W => run_string_add_sum (P := Try.prog) (w := W) s3 p4 (by omega)
  have y4 : (s3 ++ p4).size = s3.size + p4.size := ByteArray.size_append
  generalize hq4 : s3 ++ p4 = s4 at had4 y4 HHD
  have had5 := fun W => run_string_add_sum (P := Try.prog) (w := W) s4 p5 (by omega)
  have y5 : (s4 ++ p5).size = s4.size + p5.size := ByteArray.size_append
  generalize hq5 : s4 ++ p5 = s5 at had5 y5 HHD
  have had6 := fun W => run_string_add_sum (P := Try.prog) (w := W) s5 p6 (by omega)
  have y6 : (s5 ++ p6).size = s5.size + p6.size := ByteArray.size_append
  generalize hq6 : s5 ++ p6 = s6 at had6 y6 HHD
  have had7 := fun W => run_string_add_sum (P := Try.prog) (w := W) s6 p7 (by omega)
  have y7 : (s6 ++ p7).size = s6.size + p7.size := ByteArray.size_append
  generalize hq7 : s6 ++ p7 = s7 at had7 y7 HHD
  have had8 := fun W => run_string_add_sum (P := Try.prog) (w := W) s7 p8 (by omega)
  have y8 : (s7 ++ p8).size = s7.size + p8.size := ByteArray.size_append
  generalize hq8 : s7 ++ p8 = s8 at had8 y8 HHD
  have hs8 : s8.size ≤ 119 := by omega
  clear hq1 hq2 hq3 hq4 hq5 hq6 hq7 hq8 y1 y2 y3 y4 y5 y6 y7 y8 z0 z1 z2 z3 z4 z5 z6 z7 z8
  go_enter Try.func37, Try.ntmps37
  go_wp2_with fail
  refine (CR.out _).mono ?_
  rintro e w1 ⟨rfl, hb⟩
  have B1 := M.hl hb
  have V1 := M.hl ((hb.block w.heap.size (by simp)).trans (heap_alloc_new _ _))
  clear hb CR
  obtain ⟨c0, c1, c2, c3, c4, c5, c6, c7, c8⟩ := M.bk9 V1.out
  have q0 : ∀ x : M.Wd w1, x.val.cell? ⟨w.heap.size, 0, none⟩ = some (.int .i64 x1) := M.Wd.cell c0
  have q1 : ∀ x : M.Wd w1, x.val.cell? ⟨w.heap.size, 1, none⟩ = some (.string hs) := M.Wd.cell c1
  have q2 : ∀ x : M.Wd w1, x.val.cell? ⟨w.heap.size, 2, none⟩ = some (.int .i64 x2) := M.Wd.cell c2
  have q3 : ∀ x : M.Wd w1, x.val.cell? ⟨w.heap.size, 3, none⟩ = some (.int .i64 x3) := M.Wd.cell c3
  have q4 : ∀ x : M.Wd w1, x.val.cell? ⟨w.heap.size, 4, none⟩ = some (.int .i64 x4) := M.Wd.cell c4
  have q5 : ∀ x : M.Wd w1, x.val.cell? ⟨w.heap.size, 5, none⟩ = some (.int .i64 x5) := M.Wd.cell c5
  have q6 : ∀ x : M.Wd w1, x.val.cell? ⟨w.heap.size, 6, none⟩ = some (.int .i64 x6) := M.Wd.cell c6
  have q7 : ∀ x : M.Wd w1, x.val.cell? ⟨w.heap.size, 7, none⟩ = some (.int .i64 x7) := M.Wd.cell c7
  have q8 : ∀ x : M.Wd w1, x.val.cell? ⟨w.heap.size, 8, none⟩ = some (.slice a n c) := M.Wd.cell c8
  clear c0 c1 c2 c3 c4 c5 c6 c7 c8
  go_wp2_with fail
  refine M.wp_region_wd (by kernel_rfl) (by kernel_rfl) (fun _ => ?_)
  repeat (first | go_big_quiet_skip | (go_big_quiet_want; go_big_quiet_op; first | go_big_quiet_on | (apply Exists.intro; refine ⟨fun x => ?_, ?_⟩; (first | with_reducible exact M.Wd.call x (C0.out x.val) | with_reducible exact M.Wd.call x (C1.out x.val) | with_reducible exact M.Wd.call x (C2.out x.val) | with_reducible exact M.Wd.call x (C3.out x.val) | with_reducible exact M.Wd.call x (C4.out x.val) | with_reducible exact M.Wd.call x (C5.out x.val) | with_reducible exact M.Wd.call x (C6.out x.val) | with_reducible exact M.Wd.call x (C7.out x.val) | with_reducible exact M.Wd.call x (C8.out x.val)); go_big_quiet_on)))
  refine wpQuiet_nil ?_
  intro w2 hw'
  have hb2 : Below w1.heap.size w1 w2 := by obtain ⟨x, rfl⟩ := hw'; exact x.bel
  have V2 := M.hl (M.keep V1.out hb2)
  have B2 := M.hl (M.sl B1.out hb2)
  clear hw' hb2 q0 q1 q2 q3 q4 q5 q6 q7 q8 C0 C1 C2 C3 C4 C5 C6 C7 C8
  go_wp2
  go_loopw [3, 4] (fun v i wr => ∃ (k : Nat) (t : ByteArray), i = .int .i64 k ∧ v = .string t ∧ k ≤ n ∧ t.size ≤ 119 + 44 * k ∧ Hid (t.data.toList = M.dheadL ⟨x1, hs, x2, x3, x4, x5, x6, x7, ps⟩ ++ (ps.take k).flatMap M.partL) ∧ Hid (Below (w.alloc (.cells #[.int .i64 x1, .string hs, .int .i64 x2, .int .i64 x3, .int .i64 x4, .int .i64 x5, .int .i64 x6, .int .i64 x7, .slice a n c] 36)).heap.size (w.alloc (.cells #[.int .i64 x1, .string hs, .int .i64 x2, .int .i64 x3, .int .i64 x4, .int .i64 x5, .int .i64 x6, .int .i64 x7, .slice a n c] 36)) wr)) (fun _ i _ => n - (intOf i).toNat)
  case atStart => exact ⟨0, s8, rfl, rfl, Nat.zero_le _, by omega, (show _ = _ by rw [HHD.out]; simp), B2⟩
  case round =>
    obtain ⟨k, t, rfl, rfl, hk, htk, HT, HBr⟩ := hrel
    have g8 : wr.cell? ⟨w.heap.size, 8, none⟩ = some (.slice a n c) := M.bxd HBr.out 8 _ rfl
    have HBw := M.hl (M.bxd_below HBr.out)
    by_cases hlt : k < n
    · obtain ⟨hfl, _, _, hfa⟩ := HF.out.below HBw.out
      obtain ⟨b, off, hae, hat⟩ := hfa (by omega)
      obtain ⟨d0, d1, d2, d3⟩ := hat k (by omega)
      have hfk := List.getElem?_eq_getElem (l := ps) (i := k) (by omega)
      generalize ps[k]'(by omega) = f at d0 d1 d2 d3 hfk
      have HFK := M.hl hfk
      subst hae
      have hf := M.partR_iff.1 (HPR.out f (List.mem_of_getElem? hfk))
      have C0 : Hid (∀ W, Calls Try.prog 45 #[.int .i64 f.q] W fun e w' => e = .returned (.string (M.num f.q)) ∧ Below W.heap.size W w') := fun W => sPutNum_any f.q W (by omega) (by omega)
      have z0 := M.num_size f.q
      have C1 : Hid (∀ W, Calls Try.prog 45 #[.int .i64 f.l] W fun e w' => e = .returned (.string (M.num f.l)) ∧ Below W.heap.size W w') := fun W => sPutNum_any f.l W (by omega) (by omega)
      have z1 := M.num_size f.l
      have C2 : Hid (∀ W, Calls Try.prog 45 #[.int .i64 f.s] W fun e w' => e = .returned (.string (M.num f.s)) ∧ Below W.heap.size W w') := fun W => sPutNum_any f.s W (by omega) (by omega)
      have z2 := M.num_size f.s
      have C3 : Hid (∀ W, Calls Try.prog 45 #[.int .i64 f.c] W fun e w' => e = .returned (.string (M.num f.c)) ∧ Below W.heap.size W w') := fun W => sPutNum_any f.c W (by omega) (by omega)
      have z3 := M.num_size f.c
      have HT2 : Hid (((((t ++ M.num f.q) ++ M.num f.l) ++ M.num f.s) ++ M.num f.c).data.toList = M.dheadL ⟨x1, hs, x2, x3, x4, x5, x6, x7, ps⟩ ++ (ps.take (k + 1)).flatMap M.partL) := by
        show _ = _
        simp only [M.app_toList, M.num_toList]
        rw [HT.out, List.take_add_one, HFK.out]
        simp [M.partL, M.numsL]
      generalize M.num f.q = p0 at C0 z0 HT2
      generalize M.num f.l = p1 at C1 z1 HT2
      generalize M.num f.s = p2 at C2 z2 HT2
      generalize M.num f.c = p3 at C3 z3 HT2
      have had0 := fun W => run_string_add_sum (P := Try.prog) (w := W) t p0 (by omega)
      have y0 : (t ++ p0).size = t.size + p0.size := ByteArray.size_append
      generalize hq0 : t ++ p0 = t0 at had0 y0 HT2
      have had1 := fun W => run_string_add_sum (P := Try.prog) (w := W) t0 p1 (by omega)
      have y1 : (t0 ++ p1).size = t0.size + p1.size := ByteArray.size_append
      generalize hq1 : t0 ++ p1 = t1 at had1 y1 HT2
      have had2 := fun W => run_string_add_sum (P := Try.prog) (w := W) t1 p2 (by omega)
      have y2 : (t1 ++ p2).size = t1.size + p2.size := ByteArray.size_append
      generalize hq2 : t1 ++ p2 = t2 at had2 y2 HT2
      have had3 := fun W => run_string_add_sum (P := Try.prog) (w := W) t2 p3 (by omega)
      have y3 : (t2 ++ p3).size = t2.size + p3.size := ByteArray.size_append
      generalize hq3 : t2 ++ p3 = t3 at had3 y3 HT2
      have hl2 : t3.size ≤ 119 + 44 * (k + 1) := by omega
      clear hfk hat hfa hfl hf hq0 hq1 hq2 hq3 y0 y1 y2 y3 z0 z1 z2 z3
      have q8 : ∀ x : M.Wd wr, x.val.cell? ⟨w.heap.size, 8, none⟩ = some (.slice (some ⟨b, off, none⟩) n c) := M.Wd.cell g8
      have r0 : ∀ x : M.Wd wr, x.val.cell? ⟨b, off + k * 4, none⟩ = some (.int .i64 f.q) := M.Wd.cell d0
      have r1 : ∀ x : M.Wd wr, x.val.cell? ⟨b, off + k * 4 + 1, none⟩ = some (.int .i64 f.l) := M.Wd.cell d1
      have r2 : ∀ x : M.Wd wr, x.val.cell? ⟨b, off + k * 4 + 2, none⟩ = some (.int .i64 f.s) := M.Wd.cell d2
      have r3 : ∀ x : M.Wd wr, x.val.cell? ⟨b, off + k * 4 + 3, none⟩ = some (.int .i64 f.c) := M.Wd.cell d3
      clear d0 d1 d2 d3
      go_wp2_with fail
      refine M.wp_region_wd (by kernel_rfl) (by kernel_rfl) (fun _ => ?_)
      repeat (first | go_big_quiet_skip | (go_big_quiet_want; go_big_quiet_op; first | go_big_quiet_on | (apply Exists.intro; refine ⟨fun x => ?_, ?_⟩; (first | with_reducible exact M.Wd.call x (C0.out x.val) | with_reducible exact M.Wd.call x (C1.out x.val) | with_reducible exact M.Wd.call x (C2.out x.val) | with_reducible exact M.Wd.call x (C3.out x.val)); go_big_quiet_on)))
      refine wpQuiet_nil ?_
      intro w5 hw'
      have hb5 : Below wr.heap.size wr w5 := by obtain ⟨x, rfl⟩ := hw'; exact x.bel
      have B5 := M.hl (M.sl HBr.out hb5)
      clear hw' hb5 g8 q8 r0 r1 r2 r3
      go_wp2
      go_roundw
      case rel => exact ⟨k + 1, t3, by go_num, rfl, by omega, hl2, HT2, B5⟩
      case measure => simp [intOf]; omega
    · have HX : Hid ((⟨(M.dumpL ⟨x1, hs, x2, x3, x4, x5, x6, x7, ps⟩).toArray⟩ : ByteArray) = t) := by
        refine M.ba_ext ?_
        rw [HT.out, List.take_of_length_le (by have := HN.out; omega)]
        simp [M.dumpL]
      go_wp2
      go_ret
      exact ⟨by rw [HE.out, HX.out]; rfl, HBw.out⟩
end Go.Proofs.Ytcoppfmigpdglab
