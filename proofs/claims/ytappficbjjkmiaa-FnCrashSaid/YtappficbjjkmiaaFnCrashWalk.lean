/-
  A crash leaves of drawn right tapes all that is synced; a tape that is cleared is read by no part that was there: the walk of the law.
-/
import Derived.Test.YtappficbjjkmiaaPart17
import Derived.Test.YtappficbjjkmiaaLwAt
import Derived.Test.YtappficbjjkmiaaICrashL
import Derived.Test.YtappficbjjkmiaaPart18
import Derived.Test.YtappficbjjkmiaaSTRead
import Derived.Test.YtappficbjjkmiaaWide
import Derived.Deep.QuietTactic
namespace Go.Proofs.Ytappficbjjkmiaa
open Go.RowKit

set_option maxRecDepth 100000 in
set_option maxHeartbeats 800000 in
theorem lwAt_fix (w : World) (a : Option Addr) (len cap : Nat) (hR : M.IsRow w a len cap) :
    ∃ V : Int, 0 ≤ V ∧ V < 4 ∧ ∀ W, Below w.heap.size w W → Calls Try.prog 23 #[.slice a len cap, .int .i64 0, .int .i64 4] W fun e w' => e = .returned (.int .i64 V) ∧ W = w' := by
  have hl := hR.len_le
  by_cases h0 : len = 0
  · have d2 : ((len : Int) == 0) = true := beq_iff_eq.2 (by omega)
    refine ⟨0, by omega, by omega, fun W _ => ?_⟩
    clear hR h0
    go_enter Try.func23, Try.ntmps23
    go_wp2
    go_ret
    exact ⟨rfl, rfl⟩
  · have d2 : ((len : Int) == 0) = false := beq_eq_false_iff_ne.2 (by omega)
    have hlp : 0 < len := by omega
    obtain ⟨b, off, rfl, hz⟩ := hR.2.2 hlp
    obtain ⟨z, hz0, hz9, cz0⟩ := hz 0 hlp
    have hmi : (0 : Int) % (len : Int) = 0 := by simp
    refine ⟨z % 4, Int.emod_nonneg _ (by omega), Int.emod_lt_of_pos _ (by omega), fun W hW => ?_⟩
    have cz : W.cell? ⟨b, off, none⟩ = some (.int .u8 z) := by
      have := (hW.cell (p := ⟨b, off + 0, none⟩) (World.block_lt_of_cell? w _ cz0)).trans cz0
      simpa using this
    clear hR hz h0 hW cz0
    go_enter Try.func23, Try.ntmps23
    go_wp2
    go_ret
    exact ⟨rfl, rfl⟩

set_option maxRecDepth 100000 in
set_option maxHeartbeats 3200000 in
theorem fnCrash_walk (a : Option Addr) (len cap : Nat) (a' : Option Addr) (len' cap' : Nat) (w : World) (hR : M.IsRow w a len cap) (hR' : M.IsRow w a' len' cap') :
    Calls Try.prog 4 #[.slice a len cap, .slice a' len' cap'] w fun e w' => e = .returned (.bool true) ∧ Below w.heap.size w w' := by
  have hlen := hR.len_le
  have hlen' := hR'.len_le
  obtain ⟨V, hV0, hV4, hVC⟩ := lwAt_fix w a' len' cap' hR'
  have HV := M.hds hVC
  have HR := M.hds hR
  have HR2 := M.hds hR'
  clear hR hR' hVC
  by_cases hbig : 1048576 < len
  · have d1 : decide (1048576 < (len : Int)) = true := decide_eq_true (by omega)
    go_enter Try.func4, Try.ntmps4
    go_wp2
    go_ret
    exact ⟨rfl, Below.refl _ _⟩
  have d1 : decide (1048576 < (len : Int)) = false := decide_eq_false (by omega)
  by_cases hbig2 : 1048576 < len'
  · have d2 : decide (1048576 < (len' : Int)) = true := decide_eq_true (by omega)
    go_enter Try.func4, Try.ntmps4
    go_wp2
    go_ret
    exact ⟨rfl, Below.refl _ _⟩
  have d2 : decide (1048576 < (len' : Int)) = false := decide_eq_false (by omega)
  go_enter Try.func4, Try.ntmps4
  go_wp2_with fail
  refine (drawTC_any _ a len cap HR.out).mono ?_
  rintro e w1 ⟨h2, n, c, qs, h3, m, c3, zs, rfl, hqn, hn1, hn3, hF, hO, hm, hmc, hnv, hb⟩
  obtain ⟨ts, hts0⟩ : ∃ ts, ts = qs.map Prod.fst := ⟨_, rfl⟩
  rw [← hts0] at hF
  have HT1 : Hid (M.Tps w1 (some ⟨h2, 0, none⟩) n c ts) := hO.at_slice hts0.symm
  have HNV := M.hds hnv
  have HTL : Hid (ts.length = n) := by rw [hts0, List.length_map]; exact hqn
  have htl := M.tln_few301 hF
  have htn : ts.length = n := HTL.out
  have HSM : Hid (∀ t ∈ ts, ∀ s ∈ t.ss, s.size ≤ 100000000) := fun t ht s hs => by have := (hF t ht).2.2 s hs; omega
  have HTK : Hid (∀ t ∈ ts, M.tok t) := fun t ht => (hF t ht).1
  have hl : n + M.tln ts ≤ 1048576 := by omega
  have HLL := M.hds hl
  have B1 := M.hds hb
  have HMZ : Hid (zs.length ≤ 400) := by have := hnv.1; show _ ≤ _; omega
  obtain ⟨xs, hxs⟩ : ∃ xs, xs = M.crashT ts zs := ⟨_, rfl⟩
  have HXS := M.hds hxs
  have CI : Hid (∀ (W : World), Below w1.heap.size w1 W → Calls Try.prog 16 #[.slice (some ⟨h2, 0, none⟩) n c, .slice (some ⟨h3, 0, none⟩) m c3] W fun e w' => ∃ (v : Value) (rs : List (M.TapeD × Value)), e = .returned v ∧ rs.map Prod.fst = xs ∧ M.OwnT w' W.heap.size w'.heap.size v rs ∧ Below W.heap.size W w') := fun W hW => by rw [hxs]; exact iCrash_any W _ n c ts _ m c3 zs (HT1.out.below hW) HTK.out HSM.out hl (M.nvS HNV.out hW) (by omega)
  have CS : Hid (∀ (W : World), Below w1.heap.size w1 W → Calls Try.prog 17 #[.slice (some ⟨h2, 0, none⟩) n c, .slice (some ⟨h3, 0, none⟩) m c3] W fun e w' => ∃ (v : Value) (rs : List (M.TapeD × Value)), e = .returned v ∧ rs.map Prod.fst = xs ∧ M.OwnT w' W.heap.size w'.heap.size v rs ∧ Below W.heap.size W w') := fun W hW => by rw [hxs]; exact sCrash_any W _ n c ts _ m c3 zs (HT1.out.below hW) HTK.out hl (M.nvS HNV.out hW) (by omega)
  obtain ⟨L, hL⟩ : ∃ L, L = xs.length := ⟨_, rfl⟩
  have HL := M.hds hL
  clear hts0 hqn hF hO hnv hb hxs hL htl htn
  go_wp2_with fail
  refine (CI.out w1 (Below.refl _ _)).mono ?_
  rintro e w2 ⟨v2, rs2, rfl, hq2, hO, hb⟩
  obtain ⟨a2, c2, rfl⟩ : ∃ a c, v2 = .slice a L c := hO.lenN (n := L) (by rw [HL.out, ← hq2, List.length_map])
  have TX := M.hds (hO.at_slice hq2)
  have B12 := M.hds hb
  clear hq2 hO hb
  go_wp2_with fail
  refine (CS.out w2 B12.out).mono ?_
  rintro e w3 ⟨v3, rs3, rfl, hq3, hO, hb⟩
  obtain ⟨a3, c3', rfl⟩ : ∃ a c, v3 = .slice a L c := hO.lenN (n := L) (by rw [HL.out, ← hq3, List.length_map])
  have TS := M.hds (hO.at_slice hq3)
  have TX3 := M.hds (TX.out.below hb)
  have B13 := M.hds (M.sl B12.out hb)
  clear hq3 hO hb TX B12 CI CS
  go_wp2_with fail
  refine (lwTapes_same w3 a2 a3 L c2 c3' xs TX3.out TS.out).mono ?_
  rintro e w4 ⟨rfl, hb⟩
  have TX4 := M.hds (TX3.out.below hb)
  have B14 := M.hds (M.sl B13.out hb)
  have B04 := M.hds (M.sl B1.out B14.out)
  clear hb TX3 TS B13
  have HR4 : Hid (M.IsRow w4 a' len' cap') := HR2.out.kept (row := none) ⟨B04.out.os, B04.out.tape, B04.out.output, B04.out.size, fun i hi _ => B04.out.block i hi⟩ (fun _ x _ => by simp)
  go_wp2_with fail
  refine (drawTR_any w4 a' len' cap' HR4.out).mono ?_
  rintro e w5 ⟨h5, n5, c5, qs5, pa, pn, pc, ps, mm, rfl, hqn5, hn51, hn53, hF5, hO5, hp4, hpk, hP5, hm0, hm1, hb⟩
  obtain ⟨ms, hms0⟩ : ∃ ms, ms = qs5.map Prod.fst := ⟨_, rfl⟩
  rw [← hms0] at hF5
  have HM5 : Hid (M.Tps w5 (some ⟨h5, 0, none⟩) n5 c5 ms) := hO5.at_slice hms0.symm
  have hmn : ms.length = n5 := by rw [hms0, List.length_map]; exact hqn5
  have hml := M.tln_few301 hF5
  have HMK : Hid (∀ t ∈ ms, M.tok t) := fun t ht => (hF5 t ht).1
  have HMS : Hid (∀ t ∈ ms, ∀ s ∈ t.ss, s.size ≤ 100000000) := fun t ht s hs => by have := (hF5 t ht).2.2 s hs; omega
  have hl5 : n5 + M.tln ms ≤ 1048576 := by omega
  have HPP := M.hds hP5
  have HPK := M.hds hpk
  have B45 := M.hds hb
  have B15 := M.hds (M.sl B14.out hb)
  have B05 := M.hds (M.sl B04.out hb)
  have TX5 := M.hds (TX4.out.below hb)
  obtain ⟨yt, hyt⟩ : ∃ yt, yt = (M.tread ms ps mm).1 := ⟨_, rfl⟩
  obtain ⟨yc, hyc⟩ : ∃ yc, yc = (M.tread ms ps mm).2 := ⟨_, rfl⟩
  have HYC := M.hds hyc
  have CTI : Hid (∀ W, Below w5.heap.size w5 W → Calls Try.prog 13 #[.slice (some ⟨h5, 0, none⟩) n5 c5, .slice pa pn pc, .int .i64 mm] W fun e w' => e = .returned (.agg #[.slice none 0 0, .slice none 0 0, .string yt, .int .i64 yc]) ∧ Below W.heap.size W w') := fun W hW => by
    have := iTRead_any W _ n5 c5 ms pa pn pc ps mm (HM5.out.below hW) HMK.out (HPP.out.below hW) HPK.out (by omega)
    unfold M.treadV at this
    rw [← hyt, ← hyc] at this
    exact this
  have CTS : Hid (∀ W, Below w5.heap.size w5 W → Calls Try.prog 19 #[.slice (some ⟨h5, 0, none⟩) n5 c5, .slice pa pn pc, .int .i64 mm] W fun e w' => e = .returned (.agg #[.slice none 0 0, .slice none 0 0, .string yt, .int .i64 yc]) ∧ Below W.heap.size W w') := fun W hW => by
    have := sTRead_any W _ n5 c5 ms pa pn pc ps mm (HM5.out.below hW) HMK.out (HPP.out.below hW)
    unfold M.treadV at this
    rw [← hyt, ← hyc] at this
    exact this
  clear hms0 hqn5 hF5 hO5 hpk hP5 hb hyt hyc hml hmn TX4 B14 B04 HR4
  go_wp2_with fail
  refine (CTI.out w5 (Below.refl _ _)).mono ?_
  rintro e w6 ⟨rfl, hb⟩
  obtain ⟨W6, hW6⟩ : ∃ W6, W6 = w6.alloc (.cells #[.slice none 0 0, .slice none 0 0, .string yt, .int .i64 yc] 29) := ⟨_, rfl⟩
  have al6 : Below w6.heap.size w6 W6 := by rw [hW6]; exact (Below.refl _ _).alloc (Nat.le_refl _) _
  have Y6 : Hid (W6.heap[w6.heap.size]? = some (.cells #[.slice none 0 0, .slice none 0 0, .string yt, .int .i64 yc] 29 (0, 0))) := by rw [hW6]; exact heap_alloc_new _ _
  have B56 := M.hds (M.sl hb al6)
  have B06 := M.hds (M.sl B05.out B56.out)
  have B16 := M.hds (M.sl B15.out B56.out)
  have TX6 := M.hds (TX5.out.below B56.out)
  have HY := M.hds hW6
  obtain ⟨y, hy⟩ : ∃ y, y = w6.heap.size := ⟨_, rfl⟩
  rw [← hy] at Y6
  have y2 := M.bk_cell Y6.out 2 (.string yt) rfl
  have y3 := M.bk_cell Y6.out 3 (.int .i64 yc) rfl
  have hfld3 : ∀ W, (Instr.field 29 (.agg #[.slice none 0 0, .slice none 0 0, .string yt, .int .i64 yc]) 3).run Try.prog W = .ok (.int .i64 yc) W := fun W => by unfold Instr.field; simp [go_sem, asAgg]
  have hfld2 : ∀ W, (Instr.field 29 (.agg #[.slice none 0 0, .slice none 0 0, .string yt, .int .i64 yc]) 2).run Try.prog W = .ok (.string yt) W := fun W => by unfold Instr.field; simp [go_sem, asAgg]
  have dyc : (yc != yc) = false := by simp
  have dyt : (yt.toList != yt.toList) = false := by simp
  clear hb al6 TX5 B15 B05 hW6
  go_wp2_with fail
  rw [← HY.out, ← hy]
  clear hy
  have q2 := M.Wd.cell y2
  have q3 := M.Wd.cell y3
  clear y2 y3
  have CTW : Hid (∀ x : M.Wd W6, Calls Try.prog 19 #[.slice (some ⟨h5, 0, none⟩) n5 c5, .slice pa pn pc, .int .i64 mm] x.val fun e w' => e = .returned (.agg #[.slice none 0 0, .slice none 0 0, .string yt, .int .i64 yc]) ∧ Below x.val.heap.size x.val w') := fun x => CTS.out _ (M.sl B56.out x.bel)
  refine M.wp_region_wd (by kernel_rfl) (by kernel_rfl) (fun _ => ?_)
  repeat (first | go_big_quiet_skip | (go_big_quiet_want; go_big_quiet_op; first | go_big_quiet_on | (apply Exists.intro; refine ⟨fun x => ?_, ?_⟩; (with_reducible exact M.Wd.call x (CTW.out x)); go_big_quiet_on)))
  refine wpQuiet_nil ?_
  intro w7 hw'
  have hb7 : Below W6.heap.size W6 w7 := by obtain ⟨x, rfl⟩ := hw'; exact x.bel
  have Y7 := M.hds (M.keepO Y6.out hb7)
  have TX7 := M.hds (TX6.out.below hb7)
  have B57 := M.hds (M.sl B56.out hb7)
  have B17 := M.hds (M.sl B16.out hb7)
  have B07 := M.hds (M.sl B06.out hb7)
  clear hw' hb7 q2 q3 CTW CTS hfld3 hfld2 dyc dyt Y6 TX6 B56 B16 B06 HY
  go_wp2_with fail
  refine (sTapesR_any w7 _ n c ts (HT1.out.below B17.out) HTK.out).mono ?_
  rintro e w8 ⟨rfl, hb⟩
  have Y8 := M.hds (M.keepO Y7.out hb)
  have TX8 := M.hds (TX7.out.below hb)
  have B58 := M.hds (M.sl B57.out hb)
  have B18 := M.hds (M.sl B17.out hb)
  have B08 := M.hds (M.sl B07.out hb)
  clear hb Y7 TX7 B57 B17 B07
  cases hr : M.tapesR ts
  · have CR : Hid (Calls Try.prog 14 #[.slice (some ⟨h2, 0, none⟩) n c] w8 fun e w' => e = .returned (.bool false) ∧ Below w8.heap.size w8 w') := by
      have := iTapesR_any w8 _ n c ts (HT1.out.below B18.out) HTK.out
      rw [hr] at this
      exact this
    go_wp2_with fail
    refine CR.out.mono ?_
    rintro e w9 ⟨rfl, hb⟩
    have B09 := M.hds (M.sl B08.out hb)
    clear hb
    go_wp2
    go_ret
    exact ⟨rfl, B09.out⟩
  have HRT := M.hds hr
  have hLn : L = n := by rw [HL.out, HXS.out, M.crash_len hr HMZ.out]; exact HTL.out
  subst hLn
  clear hr
  go_wp2
  go_loopw [12] (fun i wr => ∃ k : Nat, i = .int .i64 k ∧ k ≤ L ∧ Hid (Below w8.heap.size w8 wr)) (fun i _ => L - (intOf i).toNat)
  case atStart => exact ⟨0, rfl, Nat.zero_le _, Below.refl _ _⟩
  case round =>
    obtain ⟨k, rfl, hk, HBr⟩ := hrel
    by_cases hlt : k < L
    case pos =>
      have TT := M.hds (HT1.out.below (M.sl B18.out HBr.out))
      have XX := M.hds (TX8.out.below HBr.out)
      obtain ⟨b1, o1, t1, e1, hfk, ⟨-, -, c2', -⟩⟩ := TT.out.at hlt
      cases e1
      obtain ⟨b2, o2, t2, rfl, hfk', ⟨-, ⟨a4, n4, k4, c4, hs4, -⟩, c5', -⟩⟩ := XX.out.at hlt
      obtain ⟨K, hK⟩ := M.crash_get HRT.out HMZ.out hfk
      rw [← HXS.out] at hK
      obtain rfl := Option.some.inj (hK.symm.trans hfk')
      obtain ⟨f1, f2⟩ := M.tcrash_keeps ((M.tapesR_iff.1 HRT.out).2 t1 (List.mem_of_getElem? hfk)) K
      have hn4 := hs4.1
      have hn4m := M.Strs.max hs4
      rw [← hn4] at f1 f2
      rw [f2] at c5'
      rw [Nat.zero_add] at c2'
      obtain ⟨sy, hsy⟩ : ∃ sy, sy = t1.syn := ⟨_, rfl⟩
      rw [← hsy] at c2' f1
      have df1 : decide ((n4 : Int) < sy) = false := decide_eq_false (by omega)
      have df2 : ((n4 : Int) != (n4 : Int)) = false := by simp
      clear hfk hfk' hK f2 hs4 hn4 hsy TT XX
      go_wp2
      go_quiet (fail)
      clear c2' c4 c5'
      go_wp2
      go_roundw
      case rel => exact ⟨k + 1, by go_num, by omega, below_drewN HBr.out _⟩
      case measure => simp [intOf]; omega
    have Y9 := M.hds (M.keepO Y8.out HBr.out)
    have B59 := M.hds (M.sl B58.out HBr.out)
    have B19 := M.hds (M.sl B18.out HBr.out)
    have B09 := M.hds (M.sl B08.out HBr.out)
    clear Y8 TX8 B58 B18 B08 HBr
    go_wp2_with fail
    refine (iSync_any wr _ L c ts (HT1.out.below B19.out) HTK.out HSM.out HLL.out).mono ?_
    rintro e w10 ⟨v10, rs10, rfl, hq10, hO, hb⟩
    have hRT := M.tapesR_iff.1 HRT.out
    obtain ⟨sl, sr⟩ := M.tsync_right hRT.2 hRT.1.1 hRT.1.2
    obtain ⟨ss, hss⟩ : ∃ ss, ss = M.syncT ts := ⟨_, rfl⟩
    rw [← hss] at hq10 sl sr
    have hsL : ss.length = L := by rw [sl]; exact HTL.out
    obtain ⟨a10, c10, rfl⟩ : ∃ a c, v10 = .slice a L c := hO.lenN (n := L) (by rw [← hsL, ← hq10, List.length_map])
    have TS10 := M.hds (hO.at_slice hq10)
    have hstl := M.tln_few301 (us := ss) (fun t ht => M.tfew_of (sr t ht))
    have CCR : Hid (∀ W, Below w10.heap.size w10 W → Calls Try.prog 16 #[.slice a10 L c10, .slice none 0 0] W fun e w' => ∃ (a : Option Addr) (c : Nat), e = .returned (.slice a L c) ∧ M.Tps w' a L c ss ∧ Below W.heap.size W w') := fun W hW => by
      refine (iCrash_any W a10 L c10 ss none 0 0 [] (TS10.out.below hW) (fun t ht => M.tok_of (sr t ht)) (fun t ht x hx => by have := (M.tfew_of (sr t ht)).2.2 x hx; omega) (by omega) ⟨rfl, fun h => absurd h (Nat.lt_irrefl _)⟩ (by omega)).mono ?_
      rintro e w' ⟨v, rs, rfl, hq, hO, hb⟩
      have hq2 : rs.map Prod.fst = ss := by rw [hq, hss]; exact M.sync_crash HRT.out
      obtain ⟨a, c, rfl⟩ := hO.lenN (n := L) (by rw [← hsL, ← hq2, List.length_map])
      exact ⟨a, c, rfl, hO.at_slice hq2, hb⟩
    have Y10 := M.hds (M.keepO Y9.out hb)
    have B510 := M.hds (M.sl B59.out hb)
    have B010 := M.hds (M.sl B09.out hb)
    clear hq10 hO hb hRT sl sr hsL hstl hss Y9 B59 B19 B09
    obtain ⟨us, hus⟩ : ∃ us, us = (M.clearO ms V).1 := ⟨_, rfl⟩
    obtain ⟨zc, hzc⟩ : ∃ zc, zc = (M.clearO ms V).2 := ⟨_, rfl⟩
    have HUS := M.hds hus
    have HZC := M.hds hzc
    have CCI : Hid (∀ W, Below w5.heap.size w5 W → Calls Try.prog 22 #[.slice (some ⟨h5, 0, none⟩) n5 c5, .int .i64 V] W fun e w' => ∃ (a : Option Addr) (n c : Nat), e = .returned (.agg #[.slice a n c, .slice none 0 0, .string ⟨#[]⟩, .int .i64 zc]) ∧ M.Tps w' a n c us ∧ Below W.heap.size W w') := fun W hW => by
      refine (iClear_any W _ n5 c5 ms V (HM5.out.below hW) HMK.out HMS.out hl5).mono ?_
      rintro e w' ⟨v, rs, rfl, hq, hO, hb⟩
      rw [← hus] at hq
      obtain ⟨a, c, rfl⟩ := hO.len
      rw [hzc]
      exact ⟨a, _, c, rfl, hO.at_slice hq, hb⟩
    have CCS : Hid (∀ W, Below w5.heap.size w5 W → Calls Try.prog 24 #[.slice (some ⟨h5, 0, none⟩) n5 c5, .int .i64 V] W fun e w' => ∃ (a : Option Addr) (n c : Nat), e = .returned (.agg #[.slice a n c, .slice none 0 0, .string ⟨#[]⟩, .int .i64 zc]) ∧ Below W.heap.size W w') := fun W hW => by
      refine (sClear_any W _ n5 c5 ms V (HM5.out.below hW) HMK.out hl5).mono ?_
      rintro e w' ⟨v, rs, rfl, hq, hO, hb⟩
      obtain ⟨a, c, rfl⟩ := hO.len
      rw [hzc]
      exact ⟨a, _, c, rfl, hb⟩
    clear hus hzc
    go_wp2_with fail
    refine (HV.out w10 B010.out).mono ?_
    rintro e w11 ⟨rfl, rfl⟩
    go_wp2_with fail
    refine (CCI.out w10 B510.out).mono ?_
    rintro e w12 ⟨az, nz, cz, rfl, hTZ, hb⟩
    obtain ⟨W12, hW12⟩ : ∃ W12, W12 = w12.alloc (.cells #[.slice az nz cz, .slice none 0 0, .string ⟨#[]⟩, .int .i64 zc] 29) := ⟨_, rfl⟩
    have al12 : Below w12.heap.size w12 W12 := by rw [hW12]; exact (Below.refl _ _).alloc (Nat.le_refl _) _
    obtain ⟨Z, hZ⟩ : ∃ Z, Z = w12.heap.size := ⟨_, rfl⟩
    have Z12 : Hid (W12.heap[Z]? = some (.cells #[.slice az nz cz, .slice none 0 0, .string ⟨#[]⟩, .int .i64 zc] 29 (0, 0))) := by rw [hW12, hZ]; exact heap_alloc_new _ _
    have Y12 := M.hds (M.keepO Y10.out (M.sl hb al12))
    have TZ12 := M.hds (hTZ.below al12)
    have B1012 := M.hds (M.sl hb al12)
    have B512 := M.hds (M.sl B510.out B1012.out)
    have B012 := M.hds (M.sl B010.out B1012.out)
    have TS12 := M.hds (TS10.out.below B1012.out)
    have HW12 := M.hds hW12
    clear hTZ hb al12 hW12 Y10 B510 B010 CCI
    have z3 := M.bk_cell Z12.out 3 (.int .i64 zc) rfl
    have dzc : (zc != zc) = false := by simp
    go_wp2_with fail
    rw [← HW12.out, ← hZ]
    clear hZ HW12
    have hfld : ∀ (a : Option Addr) (n c : Nat) W, (Instr.field 29 (.agg #[.slice a n c, .slice none 0 0, .string ⟨#[]⟩, .int .i64 zc]) 3).run Try.prog W = .ok (.int .i64 zc) W := fun a n c W => by unfold Instr.field; simp [go_sem, asAgg]
    have DR : Hid (Below W12.heap.size W12 W12.drew) := (Below.refl _ _).drew
    go_region_with (first
      | (go_at_call 23; refine (HV.out _ (M.sl B012.out DR.out)).mono ?_; rintro e wa ⟨rfl, rfl⟩)
      | (go_at_call 24; refine (CCS.out _ (M.sl B512.out DR.out)).mono ?_; rintro e wb ⟨ab, nb, cb, rfl, hbb⟩; have HBB := M.hds (M.sl DR.out hbb); have zb3 := M.bk_cell (M.keepO Z12.out HBB.out) 3 (.int .i64 zc) rfl; clear hbb)
      | (go_at_call 16; refine (CCR.out _ (M.sl B1012.out HBB.out)).mono ?_; rintro e wc ⟨ac, cc, rfl, hTC, hbc⟩; have HBC := M.hds (M.sl HBB.out hbc); have HTC := M.hds hTC; have zc3 := M.bk_cell (M.keepO Z12.out HBC.out) 3 (.int .i64 zc) rfl; clear hbc hTC)
      | (go_at_call 12; refine (lwTapes_same wc ac a10 L cc c10 ss HTC.out (TS12.out.below HBC.out)).mono ?_; rintro e wd ⟨rfl, hbd⟩; have HBD := M.hds (M.sl HBC.out hbd); have zd3 := M.bk_cell (M.keepO Z12.out HBD.out) 3 (.int .i64 zc) rfl; clear hbd))
    all_goals
      have Zd := M.hds (M.keepO Z12.out HBD.out)
      have Yd := M.hds (M.keepO Y12.out HBD.out)
      have Td := M.hds (TZ12.out.below HBD.out)
      have B5d := M.hds (M.sl B512.out HBD.out)
      have B0d := M.hds (M.sl B012.out HBD.out)
      clear z3 zb3 zc3 zd3 HBB HBC HBD HTC Z12 Y12 TZ12 B512 B012 B1012 TS10 TS12 CCR CCS hfld dzc DR
      have z3 := M.bk_cell Zd.out 3 (.int .i64 zc) rfl
      have y3 := M.bk_cell Yd.out 3 (.int .i64 yc) rfl
      by_cases hz0 : zc = 0
      case neg =>
        have dz0 : (zc != 0) = true := by rw [bne_iff_ne]; exact hz0
        go_wp2
        go_ret
        exact ⟨rfl, B0d.out⟩
      by_cases hy0 : yc = 0
      case neg =>
        have dz0 : (zc != 0) = false := by rw [hz0]; rfl
        have dy0 : (yc != 0) = true := by rw [bne_iff_ne]; exact hy0
        go_wp2
        go_ret
        exact ⟨rfl, B0d.out⟩
      have GONE : Hid (∀ p ∈ ps, p.q = V → (M.tread us ps mm).2 = 6) := fun p hp hv => by
        rw [HUS.out]
        exact M.clear_gone (by rw [← HZC.out]; exact hz0) (by rw [← HYC.out]; exact hy0) hp hv
      subst hz0
      subst hy0
      go_wp2
      clear z3 y3
      have hpm := M.Pts.max HPP.out
      go_loopw [15] (fun i wr => ∃ k : Nat, i = .int .i64 k ∧ k ≤ pn ∧ Hid (Below wd.heap.size wd wr)) (fun i _ => pn - (intOf i).toNat)
      case atStart => exact ⟨0, rfl, Nat.zero_le _, Below.refl _ _⟩
      case round =>
        obtain ⟨k, rfl, hk, HBr⟩ := hrel
        by_cases hlt : k < pn
        case neg =>
          have BE := M.hds (M.sl B0d.out HBr.out)
          go_wp2
          go_ret
          exact ⟨rfl, BE.out⟩
        have PW := M.hds (HPP.out.below (M.sl B5d.out HBr.out))
        obtain ⟨pl, -, -, ph⟩ := PW.out
        obtain ⟨pb, po, rfl, pat⟩ := ph (by omega)
        obtain ⟨c0, -⟩ := pat k (by omega)
        have hpmem : ps[k]'(by omega) ∈ ps := List.getElem_mem _
        have hgone := GONE.out _ hpmem
        generalize (ps[k]'(by omega)).q = q at c0 hgone
        have B5r := M.hds (M.sl B5d.out HBr.out)
        have B0r := M.hds (M.sl B0d.out HBr.out)
        have q0 := M.Wd.cell c0
        have CVW : Hid (∀ x : M.Wd wr, Calls Try.prog 23 #[.slice a' len' cap', .int .i64 0, .int .i64 4] x.val fun e w' => e = .returned (.int .i64 V) ∧ Below x.val.heap.size x.val w') := fun x => (HV.out x.val (M.sl B0r.out x.bel)).mono (by rintro e w' ⟨rfl, rfl⟩; exact ⟨rfl, Below.refl _ _⟩)
        clear pat ph hpmem c0 PW pl
        by_cases hqv : q = V
        · have h6 := hgone hqv
          have dq : (q == V) = true := by rw [beq_iff_eq]; exact hqv
          obtain ⟨tt, htt⟩ : ∃ tt, tt = (M.tread us ps mm).1 := ⟨_, rfl⟩
          have hz0' := M.bk_cell (M.keepO Zd.out HBr.out) 0 (.slice az nz cz) rfl
          have qz := M.Wd.cell hz0'
          have CTW : Hid (∀ x : M.Wd wr, Calls Try.prog 13 #[.slice az nz cz, .slice (some ⟨pb, po, none⟩) pn pc, .int .i64 mm] x.val fun e w' => e = .returned (.agg #[.slice none 0 0, .slice none 0 0, .string tt, .int .i64 6]) ∧ Below x.val.heap.size x.val w') := fun x => by
            have := iTRead_any x.val az nz cz us _ pn pc ps mm (Td.out.below (M.sl HBr.out x.bel)) (fun u hu => M.tok_of ((M.tapesR_iff.1 (M.right_of6 h6)).2 u hu)) (HPP.out.below (M.sl B5r.out x.bel)) HPK.out (by omega)
            unfold M.treadV at this
            rw [← htt, h6] at this
            exact this
          have hfld : ∀ W, (Instr.field 29 (.agg #[.slice none 0 0, .slice none 0 0, .string tt, .int .i64 6]) 3).run Try.prog W = .ok (.int .i64 6) W := fun W => by unfold Instr.field; simp [go_sem, asAgg]
          clear hgone h6 htt hz0' hqv
          go_wp2_with fail
          refine M.wp_region_wd (by kernel_rfl) (by kernel_rfl) (fun _ => ?_)
          repeat (first | go_big_quiet_skip | (go_big_quiet_want; go_big_quiet_op; first | go_big_quiet_on | (apply Exists.intro; refine ⟨fun x => ?_, ?_⟩; (first | with_reducible exact M.Wd.call x (CVW.out x) | with_reducible exact M.Wd.call x (CTW.out x)); go_big_quiet_on)))
          refine wpQuiet_nil ?_
          intro w7 hw'
          have hb7 : Below wr.heap.size wr w7 := by obtain ⟨x, rfl⟩ := hw'; exact x.bel
          have HB7 := M.hds (M.sl HBr.out hb7)
          clear hw' hb7 q0 qz CVW CTW hfld
          go_wp2
          go_roundw
          case rel => exact ⟨k + 1, by go_num, by omega, HB7⟩
          case measure => simp [intOf]; omega
        · have dq : (q == V) = false := by rw [beq_eq_false_iff_ne]; exact hqv
          clear hgone hqv
          go_wp2_with fail
          refine M.wp_region_wd (by kernel_rfl) (by kernel_rfl) (fun _ => ?_)
          repeat (first | go_big_quiet_skip | (go_big_quiet_want; go_big_quiet_op; first | go_big_quiet_on | (apply Exists.intro; refine ⟨fun x => ?_, ?_⟩; (with_reducible exact M.Wd.call x (CVW.out x)); go_big_quiet_on)))
          refine wpQuiet_nil ?_
          intro w7 hw'
          have hb7 : Below wr.heap.size wr w7 := by obtain ⟨x, rfl⟩ := hw'; exact x.bel
          have HB7 := M.hds (M.sl HBr.out hb7)
          clear hw' hb7 q0 CVW
          go_wp2
          go_roundw
          case rel => exact ⟨k + 1, by go_num, by omega, HB7⟩
          case measure => simp [intOf]; omega
end Go.Proofs.Ytappficbjjkmiaa
