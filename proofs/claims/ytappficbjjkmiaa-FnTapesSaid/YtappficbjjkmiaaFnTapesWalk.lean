/-
  What is written to drawn tapes is read back by its parts, and all that was there stays: the walk of the law.
-/
import Derived.Test.YtappficbjjkmiaaPart17
import Derived.Test.YtappficbjjkmiaaLwTapes
import Derived.Test.YtappficbjjkmiaaITWrite
import Derived.Test.YtappficbjjkmiaaPart18
namespace Go.Proofs.Ytappficbjjkmiaa
open Go.RowKit

theorem M.pok_of {us : List M.TapeD} (hr : M.tapesR us = true) : ∀ {ps : List M.PartD} {K : List UInt8}, M.readB us ps = some K → ∀ p ∈ ps, M.pok p
  | [], _, _, p, hp => by simp at hp
  | q :: ps, K, h, p, hp => by
    unfold M.readB at h
    cases hq : M.partB us q with
    | none => rw [hq] at h; cases h
    | some bs =>
      rw [hq] at h
      simp only at h
      cases hk : M.readB us ps with
      | none => rw [hk] at h; cases h
      | some J =>
        rcases List.mem_cons.1 hp with rfl | h2
        · unfold M.partB at hq
          cases ht : us[p.q.toNat]? with
          | none => rw [ht] at hq; cases hq
          | some t =>
            rw [ht] at hq
            simp only at hq
            split at hq
            · next hc =>
              obtain ⟨c1, c2, c3, c4, c5⟩ := hc
              have hl := (List.getElem?_eq_some_iff.1 ht).1
              obtain ⟨⟨-, h8⟩, hall⟩ := M.tapesR_iff.1 hr
              obtain ⟨⟨r1, r2⟩, ⟨-, r3⟩, r4, -⟩ := M.tapeR_iff.1 (hall t (List.mem_of_getElem? ht))
              exact ⟨⟨by omega, by omega⟩, ⟨by omega, by omega⟩, ⟨by omega, by omega⟩, ⟨by omega, by omega⟩⟩
            · cases hq
        · exact M.pok_of hr hk p h2
theorem M.pok_tread {us : List M.TapeD} {ps : List M.PartD} {m : Int} {s : ByteArray} (hr : M.tapesR us = true) (h : M.tread us ps m = (s, 0)) : ∀ p ∈ ps, M.pok p := by
  unfold M.tread at h
  split at h
  · cases h
  · split at h
    · cases h
    · cases hk : M.readB us ps with
      | none => rw [hk] at h; cases h
      | some K => exact M.pok_of hr hk
theorem M.box4 {w W : World} {v0 v1 v2 v3 : Value} {T : TypeId} (hb : Below (w.alloc (.cells #[v0, v1, v2, v3] T)).heap.size (w.alloc (.cells #[v0, v1, v2, v3] T)) W) : W.heap[w.heap.size]? = some (.cells #[v0, v1, v2, v3] T (0, 0)) := M.keepO (heap_alloc_new w _) hb
theorem M.qd {W : World} {H : Nat} {v0 v1 v2 v3 : Value} {T : TypeId} (h : W.heap[H]? = some (.cells #[v0, v1, v2, v3] T (0, 0))) : W.cell? ⟨H, 0, none⟩ = some v0 ∧ W.cell? ⟨H, 1, none⟩ = some v1 ∧ W.cell? ⟨H, 2, none⟩ = some v2 ∧ W.cell? ⟨H, 3, none⟩ = some v3 :=
  ⟨M.bk_cell h 0 _ rfl, M.bk_cell h 1 _ rfl, M.bk_cell h 2 _ rfl, M.bk_cell h 3 _ rfl⟩

set_option maxRecDepth 100000 in
set_option maxHeartbeats 3200000 in
theorem fnTapes_walk (a : Option Addr) (len cap : Nat) (w : World) (hR : M.IsRow w a len cap) :
    Calls Try.prog 3 #[.slice a len cap] w fun e w' => e = .returned (.bool true) ∧ Below w.heap.size w w' := by
  have hlen := hR.len_le
  have HR := M.hds hR
  clear hR
  by_cases hbig : 1048576 < len
  · have d1 : decide (1048576 < (len : Int)) = true := decide_eq_true (by omega)
    go_enter Try.func3, Try.ntmps3
    go_wp2
    go_ret
    exact ⟨rfl, Below.refl _ _⟩
  have d1 : decide (1048576 < (len : Int)) = false := decide_eq_false (by omega)
  go_enter Try.func3, Try.ntmps3
  go_wp2_with fail
  refine (drawTW_any _ a len cap HR.out).mono ?_
  rintro e w1 ⟨h2, n, c, qs, h3, zs, c3, t, rfl, hqn, hn1, hn3, hF, hO, hzs, hzc, hnv, hts, hb⟩
  obtain ⟨ts, hts0⟩ : ∃ ts, ts = qs.map Prod.fst := ⟨_, rfl⟩
  rw [← hts0] at hF
  have HT1 : Hid (M.Tps w1 (some ⟨h2, 0, none⟩) n c ts) := hO.at_slice hts0.symm
  have HNV := M.hds hnv
  have HF := M.hds hF
  have HTL : Hid (ts.length = n) := by rw [hts0, List.length_map]; exact hqn
  have htl := M.tln_few301 hF
  have htn : ts.length = n := HTL.out
  have HSM : Hid (∀ t ∈ ts, ∀ s ∈ t.ss, s.size ≤ 100000000) := fun t ht s hs => by have := (hF t ht).2.2 s hs; omega
  have HTK : Hid (∀ t ∈ ts, M.tok t) := fun t ht => (hF t ht).1
  have hl : n + M.tln ts ≤ 1048576 := by omega
  have B1 := M.hds hb
  obtain ⟨ok, hok⟩ := M.ok_ex (M.useP n zs)
  obtain ⟨us, hus⟩ : ∃ us, us = (M.tw ok ts zs t).1 := ⟨_, rfl⟩
  obtain ⟨pz, hpz⟩ : ∃ pz, pz = (M.tw ok ts zs t).2.1 := ⟨_, rfl⟩
  obtain ⟨z, hz⟩ : ∃ z, z = (M.tw ok ts zs t).2.2 := ⟨_, rfl⟩
  have hback : z = 0 → M.tapesR us = true ∧ M.ext ts us ∧ M.tread us pz (t.size : Int) = (t, 0) := fun h => by rw [hus, hpz]; exact M.tw_back (M.tw_ok hok) (by rw [← hz]; exact h)
  have hcode : z = 0 ∨ (us = [] ∧ pz = [] ∧ 1 ≤ z) := by rw [hus, hpz, hz]; exact M.tw_code ok ts zs t
  have CI : Hid (∀ (W : World), Below w1.heap.size w1 W → Calls Try.prog 10 #[.slice (some ⟨h2, 0, none⟩) n c, .slice (some ⟨h3, 0, none⟩) zs.length c3, .string t] W fun e w' => ∃ (v u : Value) (rs : List (M.TapeD × Value)), e = .returned (.agg #[v, u, .string ⟨#[]⟩, .int .i64 z]) ∧ rs.map Prod.fst = us ∧ M.OwnT w' W.heap.size w'.heap.size v rs ∧ M.OwnPt w' W.heap.size u pz ∧ Below W.heap.size W w') := fun W hW => by rw [hz, hus, hpz]; exact iTWrite_any W _ n c ts _ zs.length c3 zs t ok (HT1.out.below hW) HTK.out HSM.out hl (M.nvS HNV.out hW) hzc (by omega) hok
  have CS : Hid (∀ (W : World), Below w1.heap.size w1 W → Calls Try.prog 11 #[.slice (some ⟨h2, 0, none⟩) n c, .slice (some ⟨h3, 0, none⟩) zs.length c3, .string t] W fun e w' => ∃ (v u : Value) (rs : List (M.TapeD × Value)), e = .returned (.agg #[v, u, .string ⟨#[]⟩, .int .i64 z]) ∧ rs.map Prod.fst = us ∧ M.OwnT w' W.heap.size w'.heap.size v rs ∧ M.OwnPt w' W.heap.size u pz ∧ Below W.heap.size W w') := fun W hW => by rw [hz, hus, hpz]; exact sTWrite_any W _ n c ts _ zs.length c3 zs t ok (HT1.out.below hW) HTK.out hl (M.nvS HNV.out hW) hzc (by omega) hok
  have HBACK := M.hds hback
  obtain ⟨L, hL⟩ : ∃ L, L = us.length := ⟨_, rfl⟩
  obtain ⟨K, hK⟩ : ∃ K, K = pz.length := ⟨_, rfl⟩
  have HLL := M.hds hL
  have HKK := M.hds hK
  clear hts0 hqn hF hO hnv hb hok hus hpz hz hback hL hK htn htl
  clear ok
  go_wp2_with fail
  refine (CI.out w1 (Below.refl _ _)).mono ?_
  rintro e w2 ⟨v2, u2, rs2, rfl, hq2, hO, hP, hb⟩
  obtain ⟨a2, c2, rfl⟩ : ∃ a c, v2 = .slice a L c := by
    obtain ⟨a', c', e⟩ := hO.lenN (n := L) (by rw [HLL.out, ← hq2, List.length_map])
    exact ⟨a', c', e⟩
  obtain ⟨b2, e2, rfl⟩ : ∃ b e, u2 = .slice b K e := by rw [HKK.out]; exact hP.len
  have TX := M.hds (hO.at_slice hq2)
  have PX := M.hds hP.at_slice
  have al : ∀ o, Below w2.heap.size w2 (w2.alloc o) := fun o => (Below.refl _ _).alloc (Nat.le_refl _) _
  have B12 := M.hds hb
  clear hq2 hO hP hb
  have AL := M.hds al
  clear al
  go_wp2_with fail
  refine (CS.out _ (M.sl B12.out (AL.out _))).mono ?_
  rintro e w3 ⟨v3, u3, rs3, rfl, hq3, hO, hP, hb⟩
  obtain ⟨a3, c3', rfl⟩ : ∃ a c, v3 = .slice a L c := by
    obtain ⟨a', c', e⟩ := hO.lenN (n := L) (by rw [HLL.out, ← hq3, List.length_map])
    exact ⟨a', c', e⟩
  obtain ⟨b3, e3, rfl⟩ : ∃ b e, u3 = .slice b K e := by rw [HKK.out]; exact hP.len
  have TS := M.hds (hO.at_slice hq3)
  have X3 := M.hds (M.box4 hb)
  have B23 := M.hds (M.sl (AL.out _) hb)
  have B13 := M.hds (M.sl B12.out B23.out)
  clear hq3 hO hP hb
  obtain ⟨W3, hW3⟩ : ∃ W3, W3 = w3.alloc (.cells #[.slice a3 L c3', .slice b3 K e3, .string ⟨#[]⟩, .int .i64 z] 29) := ⟨_, rfl⟩
  have al3 : Below w3.heap.size w3 W3 := by rw [hW3]; exact (Below.refl _ _).alloc (Nat.le_refl _) _
  have X4 := M.hds (M.keepO X3.out al3)
  have Y4 : Hid (W3.heap[w3.heap.size]? = some (.cells #[.slice a3 L c3', .slice b3 K e3, .string ⟨#[]⟩, .int .i64 z] 29 (0, 0))) := by rw [hW3]; exact heap_alloc_new _ _
  have TX4 := M.hds (TX.out.below (M.sl B23.out al3))
  have TS4 := M.hds (TS.out.below al3)
  have B14 := M.hds (M.sl B13.out al3)
  have X3a : Hid (∀ o, (w3.alloc o).heap[w2.heap.size]? = some (.cells #[.slice a2 L c2, .slice b2 K e2, .string ⟨#[]⟩, .int .i64 z] 29 (0, 0))) := fun o => M.keepO X3.out ((Below.refl _ _).alloc (Nat.le_refl _) _)
  have x0 : ∀ o, (w3.alloc o).cell? ⟨w2.heap.size, 0, none⟩ = some (.slice a2 L c2) := fun o => M.bk_cell (X3a.out o) 0 _ rfl
  have x3 : ∀ o, (w3.alloc o).cell? ⟨w2.heap.size, 3, none⟩ = some (.int .i64 z) := fun o => M.bk_cell (X3a.out o) 3 _ rfl
  have HW3 := M.hds hW3
  clear al3 hW3
  have dz : (z != z) = false := by simp
  have dK : ((K : Int) != (K : Int)) = false := by simp
  go_wp2_with fail
  rw [← HW3.out]
  refine (lwTapes_same W3 a2 a3 L c2 c3' us TX4.out TS4.out).mono ?_
  rintro e w4 ⟨rfl, hb⟩
  have X5 := M.hds (M.keepO X4.out hb)
  have Y5 := M.hds (M.keepO Y4.out hb)
  have TX5 := M.hds (TX4.out.below hb)
  have B15 := M.hds (M.sl B14.out hb)
  have B25 : Hid (Below w2.heap.size w2 w4) := M.sl (M.sl B23.out (by rw [HW3.out]; exact (Below.refl _ _).alloc (Nat.le_refl _) _)) hb
  clear hb x0 x3 X3 X3a X4 Y4 TX TX4 TS TS4 B14 B13 B23 HW3 CI CS
  obtain ⟨x0, x1, x2, x3⟩ := M.qd X5.out
  obtain ⟨y0, y1, y2, y3⟩ := M.qd Y5.out
  by_cases hz0 : z = 0
  case neg =>
    have dz0 : (z != 0) = true := by rw [bne_iff_ne]; exact hz0
    have hL0 : L = 0 := by
      rcases hcode with h | ⟨h, -, -⟩
      · exact absurd h hz0
      · rw [HLL.out, h]; rfl
    subst hL0
    go_wp2
    go_ret
    exact ⟨rfl, M.sl B1.out B15.out⟩
  obtain ⟨hr, hext, hread⟩ := HBACK.out hz0
  subst hz0
  have HEX := M.hds hext
  have CT : Hid (∀ W, Below w4.heap.size w4 W → Calls Try.prog 13 #[.slice a2 L c2, .slice b2 K e2, .int .i64 (t.size : Int)] W fun e w' => e = .returned (.agg #[.slice none 0 0, .slice none 0 0, .string t, .int .i64 0]) ∧ Below W.heap.size W w') := fun W hW => by
    have := iTRead_any W a2 L c2 us b2 K e2 pz (t.size : Int) (TX5.out.below hW) (fun u hu => M.tok_of ((M.tapesR_iff.1 hr).2 u hu)) ((PX.out.below B25.out).below hW) (M.pok_tread hr hread) (by omega)
    unfold M.treadV at this
    rw [hread] at this
    exact this
  have CR : Hid (∀ W, Below w4.heap.size w4 W → Calls Try.prog 14 #[.slice a2 L c2] W fun e w' => e = .returned (.bool true) ∧ Below W.heap.size W w') := fun W hW => by
    have := iTapesR_any W a2 L c2 us (TX5.out.below hW) (fun u hu => M.tok_of ((M.tapesR_iff.1 hr).2 u hu))
    rw [hr] at this
    exact this
  have hLn : L = n := by rw [HLL.out, HEX.out.1]; exact HTL.out
  subst hLn
  have dt : (t.toList != t.toList) = false := by simp
  have dn : ((L : Int) != (L : Int)) = false := by simp
  clear hr hext hread hcode HBACK PX
  go_wp2_with fail
  refine (CT.out _ (Below.refl _ _)).mono ?_
  rintro e w5 ⟨rfl, hb⟩
  have al5 : ∀ o, Below w5.heap.size w5 (w5.alloc o) := fun o => (Below.refl _ _).alloc (Nat.le_refl _) _
  have X6 := M.hds (fun o => M.keepO X5.out (M.sl hb (al5 o)))
  have B46 := M.hds (fun o => M.sl hb (al5 o))
  clear hb al5 x0 x1 x2 x3 y0 y1 y2 y3 Y5 CT
  have x0 : ∀ o, (w5.alloc o).cell? ⟨w2.heap.size, 0, none⟩ = some (.slice a2 L c2) := fun o => M.bk_cell (X6.out o) 0 _ rfl
  go_wp2_with fail
  refine (CR.out _ (B46.out _)).mono ?_
  rintro e w6 ⟨rfl, hb⟩
  have X7 := M.hds (M.keepO (X6.out _) hb)
  have B47 := M.hds (M.sl (B46.out _) hb)
  clear hb x0 X6 B46 CR
  obtain ⟨x0, x1, x2, x3⟩ := M.qd X7.out
  have B17 := M.hds (M.sl B15.out B47.out)
  have B07 := M.hds (M.sl B1.out B17.out)
  have TX7 := M.hds (TX5.out.below B47.out)
  have TL7 := M.hds (HT1.out.below B17.out)
  clear TX5 X5 B47 B17 B15 B25 B12 HNV HSM HTK HF
  go_wp2
  clear x0 x1 x2 x3
  go_loopw [9] (fun i wr => ∃ k : Nat, i = .int .i64 k ∧ k ≤ L ∧ Hid (Below w6.heap.size w6 wr)) (fun i _ => L - (intOf i).toNat)
  case atStart => exact ⟨0, rfl, Nat.zero_le _, Below.refl _ _⟩
  case round =>
    obtain ⟨k, rfl, hk, HBr⟩ := hrel
    by_cases hlt : k < L
    case neg =>
      have BE := M.hds (M.sl B07.out HBr.out)
      go_wp2
      go_ret
      exact ⟨rfl, BE.out⟩
    obtain ⟨b1, o1, t1, e1, hfk, hat⟩ := TL7.out.at hlt
    cases e1
    obtain ⟨b2', o2, t2, rfl, hfk', hat'⟩ := TX7.out.at hlt
    obtain ⟨u, hu, -, more, hss⟩ := HEX.out.2 k t1 hfk
    obtain rfl := Option.some.inj (hu.symm.trans hfk')
    obtain ⟨-, ⟨a1, n1, k1, c1, hs1, -⟩, -⟩ := hat
    obtain ⟨-, ⟨a4, n4, k4, c4, hs4, -⟩, -⟩ := hat'
    rw [hss] at hs4
    obtain ⟨lab, ss, syn, room⟩ := t1
    simp only at hs1 hs4
    have hn1 := M.Strs.max hs1
    have hn4 := M.Strs.max hs4
    have h14 : n1 ≤ n4 := by rw [hs1.1, hs4.1, List.length_append]; omega
    have HC1 : Hid (∀ W, Below w6.heap.size w6 W → W.cell? ⟨h2, 0 + k * 4 + 1, none⟩ = some (.slice a1 n1 k1) ∧ M.Strs W a1 n1 k1 ss) := fun W hW => ⟨(World.cell?_of_block (a := ⟨h2, 0 + k * 4 + 1, none⟩) (hW.block h2 (World.block_lt_of_cell? w6 _ c1))).trans c1, hs1.below hW⟩
    have HC2 : Hid (∀ W, Below w6.heap.size w6 W → W.cell? ⟨b2', o2 + k * 4 + 1, none⟩ = some (.slice a4 n4 k4) ∧ M.Strs W a4 n4 k4 (ss ++ more)) := fun W hW => ⟨(World.cell?_of_block (a := ⟨b2', o2 + k * 4 + 1, none⟩) (hW.block b2' (World.block_lt_of_cell? w6 _ c4))).trans c4, hs4.below hW⟩
    have HC0 : Hid (∀ W, Below w6.heap.size w6 W → W.cell? ⟨w2.heap.size, 0, none⟩ = some (.slice (some ⟨b2', o2, none⟩) L c2)) := fun W hW => M.bk_cell (M.keepO X7.out hW) 0 _ rfl
    rw [Nat.zero_add] at HC1
    clear hfk hfk' hu hss c1 c4 hs1 hs4
    go_wp2
    go_loopw [10] (fun i wi => ∃ j : Nat, i = .int .i64 j ∧ j ≤ n1 ∧ Hid (Below w6.heap.size w6 wi)) (fun i _ => n1 - (intOf i).toNat)
    case atStart => exact ⟨0, rfl, Nat.zero_le _, HBr⟩
    case round =>
      obtain ⟨j, rfl, hj, HBi⟩ := hrel
      obtain ⟨f1, g1⟩ := HC1.out wr HBi.out
      obtain ⟨f2, g2⟩ := HC2.out wr HBi.out
      have f0 := HC0.out wr HBi.out
      by_cases hji : j < n1
      case neg =>
        clear g1 g2 f0 f2
        go_wp2
        go_roundw
        case rel => exact ⟨k + 1, by go_num, by omega, HBi⟩
        case measure => simp [intOf]; omega
      obtain ⟨l1, -, -, z1⟩ := g1
      obtain ⟨l2, -, -, z2⟩ := g2
      obtain ⟨p1, q1, rfl, r1⟩ := z1 (by omega)
      obtain ⟨p2, q2, rfl, r2⟩ := z2 (by omega)
      have s1 := r1 j (by omega)
      have s2 := r2 j (by omega)
      rw [List.getElem_append_left (by omega)] at s2
      generalize ss[j]'(by omega) = s at s1 s2
      have ds : (s.toList != s.toList) = false := by simp
      clear r1 r2 z1 z2 l1 l2
      go_wp2
      go_quiet (fail)
      clear f0 f1 f2 s1 s2
      go_wp2
      go_roundw
      case rel => exact ⟨j + 1, by go_num, by omega, below_drewN HBi.out _⟩
      case measure => simp [intOf]; omega
end Go.Proofs.Ytappficbjjkmiaa
