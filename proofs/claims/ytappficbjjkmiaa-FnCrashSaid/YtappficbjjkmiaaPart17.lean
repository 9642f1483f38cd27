/-
  What is written to drawn tapes is read back by its parts, and all that was there stays: the walk of the law.
-/
import Derived.Test.YtappficbjjkmiaaPart15
import Derived.Test.YtappficbjjkmiaaLwTapes
import Derived.Test.YtappficbjjkmiaaITWrite
import Derived.Test.YtappficbjjkmiaaPart16
import Derived.Test.YtappficbjjkmiaaPart13
import Derived.Test.YtappficbjjkmiaaPart8
import Derived.Test.YtappficbjjkmiaaITapesR
import Derived.Test.YtappficbjjkmiaaPart10
import Derived.Laws.Cover3
import Derived.Deep.RegionWith
namespace Go.Proofs.Ytappficbjjkmiaa
open Go.RowKit

theorem M.pok_of {us : List M.TapeD} (hr : M.tapesR us = true) : ∀ {ps : List M.PartD} {K : List UInt8}, M.readB us ps = some K → ∀ p ∈ ps, M.pok p
  | [], _, _, p, hp => by simp at hp
  | q :: ps, K, h, p, hp => by
    unfold M.readB at h
    cases hq : M.partB us q with
    | none => rw [hq] at h; cases h
    | some bs =>
      rw [hq] at h
      simp only at h
      cases hk : M.readB us ps with
      | none => rw [hk] at h; cases h
      | some J =>
        rcases List.mem_cons.1 hp with rfl | h2
        · unfold M.partB at hq
          cases ht : us[p.q.toNat]? with
          | none => rw [ht] at hq; cases hq
          | some t =>
            rw [ht] at hq
            simp only at hq
            split at hq
            · next hc =>
              obtain ⟨c1, c2, c3, c4, c5⟩ := hc
              have hl := (List.getElem?_eq_some_iff.1 ht).1
              obtain ⟨⟨-, h8⟩, hall⟩ := M.tapesR_iff.1 hr
              obtain ⟨⟨r1, r2⟩, ⟨-, r3⟩, r4, -⟩ := M.tapeR_iff.1 (hall t (List.mem_of_getElem? ht))
              exact ⟨⟨by omega, by omega⟩, ⟨by omega, by omega⟩, ⟨by omega, by omega⟩, ⟨by omega, by omega⟩⟩
            · cases hq
        · exact M.pok_of hr hk p h2
theorem M.pok_tread {us : List M.TapeD} {ps : List M.PartD} {m : Int} {s : ByteArray} (hr : M.tapesR us = true) (h : M.tread us ps m = (s, 0)) : ∀ p ∈ ps, M.pok p := by
  unfold M.tread at h
  split at h
  · cases h
  · split at h
    · cases h
    · cases hk : M.readB us ps with
      | none => rw [hk] at h; cases h
      | some K => exact M.pok_of hr hk
theorem M.box4 {w W : World} {v0 v1 v2 v3 : Value} {T : TypeId} (hb : Below (w.alloc (.cells #[v0, v1, v2, v3] T)).heap.size (w.alloc (.cells #[v0, v1, v2, v3] T)) W) : W.heap[w.heap.size]? = some (.cells #[v0, v1, v2, v3] T (0, 0)) := M.keepO (heap_alloc_new w _) hb
theorem M.qd {W : World} {H : Nat} {v0 v1 v2 v3 : Value} {T : TypeId} (h : W.heap[H]? = some (.cells #[v0, v1, v2, v3] T (0, 0))) : W.cell? ⟨H, 0, none⟩ = some v0 ∧ W.cell? ⟨H, 1, none⟩ = some v1 ∧ W.cell? ⟨H, 2, none⟩ = some v2 ∧ W.cell? ⟨H, 3, none⟩ = some v3 :=
  ⟨M.bk_cell h 0 _ rfl, M.bk_cell h 1 _ rfl, M.bk_cell h 2 _ rfl, M.bk_cell h 3 _ rfl⟩

set_option maxRecDepth 100000 in
set_option maxHeartbeats 3200000 in
theorem fnTapes_walk (a : Option Addr) (len cap : Nat) (w : World) (hR : M.IsRow w a len cap) :
    Calls Try.prog 3 #[.slice a len cap] w fun e w' => e = .returned (.bool true) ∧ Below w.heap.size w w' := by
  have hlen := hR.len_le
  have HR := M.hds hR
  clear hR
  by_cases hbig : 1048576 < len
  · have d1 : decide (1048576 < (len : Int)) = true := decide_eq_true (by omega)
    go_enter Try.func3, Try.ntmps3
    go_wp2
    go_ret
    exact ⟨rfl, Below.refl _ _⟩
  have d1 : decide (1048576 < (len : Int)) = false := decide_eq_false (by omega)
  go_enter Try.func3, Try.ntmps3
  go_wp2_with fail
  refine (drawTW_any _ a len cap HR.out).mono ?_
  rintro e w1 ⟨h2, n, c, qs, h3, zs, c3, t, rfl, hqn, hn1, hn3, hF, hO, hzs, hzc, hnv, hts, hb⟩
  obtain ⟨ts, hts0⟩ : ∃ ts, ts = qs.map Prod.fst := ⟨_, rfl⟩
  rw [← hts0] at hF
  have HT1 : Hid (M.Tps w1 (some ⟨h2, 0, none⟩) n c ts) := hO.at_slice hts0.symm
  have HNV := M.hds hnv
  have HF := M.hds hF
  have HTL : Hid (ts.length = n) := by rw [hts0, List.length_map]; exact hqn
  have htl := M.tln_few301 hF
  have htn : ts.length = n := HTL.out
  have HSM : Hid (∀ t ∈ ts, ∀ s ∈ t.ss, s.size ≤ 100000000) := fun t ht s hs => by have := (hF t ht).2.2 s hs; omega
  have HTK : Hid (∀ t ∈ ts, M.tok t) := fun t ht => (hF t ht).1
  have hl : n + M.tln ts ≤ 1048576 := by omega
  have B1 := M.hds hb
  obtain ⟨ok, hok⟩ := M.ok_ex (M.useP n zs)
  obtain ⟨us, hus⟩ : ∃ us, us = (M.tw ok ts zs t).1 := ⟨_, rfl⟩
  obtain ⟨pz, hpz⟩ : ∃ pz, pz = (M.tw ok ts zs t).2.1 := ⟨_, rfl⟩
  obtain ⟨z, hz⟩ : ∃ z, z = (M.tw ok ts zs t).2.2 := ⟨_, rfl⟩
  have hback : z = 0 → M.tapesR us = true ∧ M.ext ts us ∧ M.tread us pz (t.size : Int) = (t, 0) := fun h => by rw [hus, hpz]; exact M.tw_back (M.tw_ok hok) (by rw [← hz]; exact h)
  have hcode : z = 0 ∨ (us = [] ∧ pz = [] ∧ 1 ≤ z) := by rw [hus, hpz, hz]; exact M.tw_code ok ts zs t
  have CI : Hid (∀ (W : World), Below w1.heap.size w1 W → Calls Try.prog 10 #[.slice (some ⟨h2, 0, none⟩) n c, .slice (some ⟨h3, 0, none⟩) zs.length c3, .string t] W fun e w' => ∃ (v u : Value) (rs : List (M.TapeD × Value)), e = .returned (.agg #[v, u, .string ⟨#[]⟩, .int .i64 z]) ∧ rs.map Prod.fst = us ∧ M.OwnT w' W.heap.size w'.heap.size v rs ∧ M.OwnPt w' W.heap.size u pz ∧ Below W.heap.size W w') := fun W hW => by rw [hz, hus, hpz]; exact iTWrite_any W _ n c ts _ zs.length c3 zs t ok (HT1.out.below hW) HTK.out HSM.out hl (M.nvS HNV.out hW) hzc (by omega) hok
  have CS : Hid (∀ (W : World), Below w1.heap.size w1 W → Calls Try.prog 11 #[.slice (some ⟨h2, 0, none⟩) n c, .slice (some ⟨h3, 0, none⟩) zs.length c3, .string t] W fun e w' => ∃ (v u : Value) (rs : List (M.TapeD × Value)), e = .returned (.agg #[v, u, .string ⟨#[]⟩, .int .i64 z]) ∧ rs.map Prod.fst = us ∧ M.OwnT w' W.heap.size w'.heap.size v rs ∧ M.OwnPt w' W.heap.size u pz ∧ Below W.heap.size W w') := fun W hW => by rw [hz, hus, hpz]; exact sTWrite_any W _ n c ts _ zs.length c3 zs t ok (HT1.out.below hW) HTK.out hl (M.nvS HNV.out hW) hzc (by omega) hok
  have HBACK := M.hds hback
  obtain ⟨L, hL⟩ : ∃ L, L = us.length := ⟨_, rfl⟩
  obtain ⟨K, hK⟩ : ∃ K, K = pz.length := ⟨_, rfl⟩
  have HLL := M.hds hL
  have HKK := M.hds hK
  clear hts0 hqn hF hO hnv hb hok hus hpz hz hback hL hK htn htl
  clear ok
  go_wp2_with fail
  refine (CI.out w1 (Below.refl _ _)).mono ?_
  rintro e w2 ⟨v2, u2, rs2, rfl, hq2, hO, hP, hb⟩
  obtain ⟨a2, c2, rfl⟩ : ∃ a c, v2 = .slice a L c := by
    obtain ⟨a', c', e⟩ := hO.lenN (n := L) (by rw [HLL.out, ← hq2, List.length_map])
    exact ⟨a', c', e⟩
  obtain ⟨b2, e2, rfl⟩ : ∃ b e, u2 = .slice b K e := by rw [HKK.out]; exact hP.len
  have TX := M.hds (hO.at_slice hq2)
  have PX := M.hds hP.at_slice
  have al : ∀ o, Below w2.heap.size w2 (w2.alloc o) := fun o => (Below.refl _ _).alloc (Nat.le_refl _) _
  have B12 := M.hds hb
  clear hq2 hO hP hb
  have AL := M.hds al
  clear al
  go_wp2_with fail
  refine (CS.out _ (M.sl B12.out (AL.out _))).mono ?_
  rintro e w3 ⟨v3, u3, rs3, rfl, hq3, hO, hP, hb⟩
  obtain ⟨a3, c3', rfl⟩ : ∃ a c, v3 = .slice a L c := by
    obtain ⟨a', c', e⟩ := hO.lenN (n := L) (by rw [HLL.out, ← hq3, List.length_map])
    exact ⟨a', c', e⟩
  obtain ⟨b3, e3, rfl⟩ : ∃ b e, u3 = .slice b K e := by rw [HKK.out]; exact hP.len
  have TS := M.hds (hO.at_slice hq3)
  have X3 := M.hds (M.box4 hb)
  have B23 := M.hds (M.sl (AL.out _) hb)
  have B13 := M.hds (M.sl B12.out B23.out)
  clear hq3 hO hP hb
  obtain ⟨W3, hW3⟩ : ∃ W3, W3 = w3.alloc (.cells #[.slice a3 L c3', .slice b3 K e3, .string ⟨#[]⟩, .int .i64 z] 29) := ⟨_, rfl⟩
  have al3 : Below w3.heap.size w3 W3 := by rw [hW3]; exact (Below.refl _ _).alloc (Nat.le_refl _) _
  have X4 := M.hds (M.keepO X3.out al3)
  have Y4 : Hid (W3.heap[w3.heap.size]? = some (.cells #[.slice a3 L c3', .slice b3 K e3, .string ⟨#[]⟩, .int .i64 z] 29 (0, 0))) := by rw [hW3]; exact heap_alloc_new _ _
  have TX4 := M.hds (TX.out.below (M.sl B23.out al3))
  have TS4 := M.hds (TS.out.below al3)
  have B14 := M.hds (M.sl B13.out al3)
  have X3a : Hid (∀ o, (w3.alloc o).heap[w2.heap.size]? = some (.cells #[.slice a2 L c2, .slice b2 K e2, .string ⟨#[]⟩, .int .i64 z] 29 (0, 0))) := fun o => M.keepO X3.out ((Below.refl _ _).alloc (Nat.le_refl _) _)
  have x0 : ∀ o, (w3.alloc o).cell? ⟨w2.heap.size, 0, none⟩ = some (.slice a2 L c2) := fun o => M.bk_cell (X3a.out o) 0 _ rfl
  have x3 : ∀ o, (w3.alloc o).cell? ⟨w2.heap.size, 3, none⟩ = some (.int .i64 z) := fun o => M.bk_cell (X3a.out o) 3 _ rfl
  have HW3 := M.hds hW3
  clear al3 hW3
  have dz : (z != z) = false := by simp
  have dK : ((K : Int) != (K : Int)) = false := by simp
  go_wp2_with fail
  rw [← HW3.out]
  refine (lwTapes_same W3 a2 a3 L c2 c3' us TX4.out TS4.out).mono ?_
  rintro e w4 ⟨rfl, hb⟩
  have X5 := M.hds (M.keepO X4.out hb)
  have Y5 := M.hds (M.keepO Y4.out hb)
  have TX5 := M.hds (TX4.out.below hb)
  have B15 := M.hds (M.sl B14.out hb)
  have B25 : Hid (Below w2.heap.size w2 w4) := M.sl (M.sl B23.out (by rw [HW3.out]; exact (Below.refl _ _).alloc (Nat.le_refl _) _)) hb
  clear hb x0 x3 X3 X3a X4 Y4 TX TX4 TS TS4 B14 B13 B23 HW3 CI CS
  obtain ⟨x0, x1, x2, x3⟩ := M.qd X5.out
  obtain ⟨y0, y1, y2, y3⟩ := M.qd Y5.out
  by_cases hz0 : z = 0
  case neg =>
    have dz0 : (z != 0) = true := by rw [bne_iff_ne]; exact hz0
    have hL0 : L = 0 := by
      rcases hcode with h | ⟨h, -, -⟩
      · exact absurd h hz0
      · rw [HLL.out, h]; rfl
    subst hL0
    go_wp2
    go_ret
    exact ⟨rfl, M.sl B1.out B15.out⟩
  obtain ⟨hr, hext, hread⟩ := HBACK.out hz0
  subst hz0
  have HEX := M.hds hext
  have CT : Hid (∀ W, Below w4.heap.size w4 W → Calls Try.prog 13 #[.slice a2 L c2, .slice b2 K e2, .int .i64 (t.size : Int)] W fun e w' => e = .returned (.agg #[.slice none 0 0, .slice none 0 0, .string t, .int .i64 0]) ∧ Below W.heap.size W w') := fun W hW => by
    have := iTRead_any W a2 L c2 us b2 K e2 pz (t.size : Int) (TX5.out.below hW) (fun u hu => M.tok_of ((M.tapesR_iff.1 hr).2 u hu)) ((PX.out.below B25.out).below hW) (M.pok_tread hr hread) (by omega)
    unfold M.treadV at this
    rw [hread] at this
    exact this
  have CR : Hid (∀ W, Below w4.heap.size w4 W → Calls Try.prog 14 #[.slice a2 L c2] W fun e w' => e = .returned (.bool true) ∧ Below W.heap.size W w') := fun W hW => by
    have := iTapesR_any W a2 L c2 us (TX5.out.below hW) (fun u hu => M.tok_of ((M.tapesR_iff.1 hr).2 u hu))
    rw [hr] at this
    exact this
  have hLn : L = n := by rw [HLL.out, HEX.out.1]; exact HTL.out
  subst hLn
  have dt : (t.toList != t.toList) = false := by simp
  have dn : ((L : Int) != (L : Int)) = false := by simp
  clear hr hext hread hcode HBACK PX
  go_wp2_with fail
  refine (CT.out _ (Below.refl _ _)).mono ?_
  rintro e w5 ⟨rfl, hb⟩
  have al5 : ∀ o, Below w5.heap.size w5 (w5.alloc o) := fun o => (Below.refl _ _).alloc (Nat.le_refl _) _
  have X6 := M.hds (fun o => M.keepO X5.out (M.sl hb (al5 o)))
  have B46 := M.hds (fun o => M.sl hb (al5 o))
  clear hb al5 x0 x1 x2 x3 y0 y1 y2 y3 Y5 CT
  have x0 : ∀ o, (w5.alloc o).cell? ⟨w2.heap.size, 0, none⟩ = some (.slice a2 L c2) := fun o => M.bk_cell (X6.out o) 0 _ rfl
  go_wp2_with fail
  refine (CR.out _ (B46.out _)).mono ?_
  rintro e w6 ⟨rfl, hb⟩
  have X7 := M.hds (M.keepO (X6.out _) hb)
  have B47 := M.hds (M.sl (B46.out _) hb)
  clear hb x0 X6 B46 CR
  obtain ⟨x0, x1, x2, x3⟩ := M.qd X7.out
  have B17 := M.hds (M.sl B15.out B47.out)
  have B07 := M.hds (M.sl B1.out B17.out)
  have TX7 := M.hds (TX5.out.below B47.out)
  have TL7 := M.hds (HT1.out.below B17.out)
  clear TX5 X5 B47 B17 B15 B25 B12 HNV HSM HTK HF
  go_wp2
  clear x0 x1 x2 x3
  go_loopw [9] (fun i wr => ∃ k : Nat, i = .int .i64 k ∧ k ≤ L ∧ Hid (Below w6.heap.size w6 wr)) (fun i _ => L - (intOf i).toNat)
  case atStart => exact ⟨0, rfl, Nat.zero_le _, Below.refl _ _⟩
  case round =>
    obtain ⟨k, rfl, hk, HBr⟩ := hrel
    by_cases hlt : k < L
    case neg =>
      have BE := M.hds (M.sl B07.out HBr.out)
      go_wp2
      go_ret
      exact ⟨rfl, BE.out⟩
    obtain ⟨b1, o1, t1, e1, hfk, hat⟩ := TL7.out.at hlt
    cases e1
    obtain ⟨b2', o2, t2, rfl, hfk', hat'⟩ := TX7.out.at hlt
    obtain ⟨u, hu, -, more, hss⟩ := HEX.out.2 k t1 hfk
    obtain rfl := Option.some.inj (hu.symm.trans hfk')
    obtain ⟨-, ⟨a1, n1, k1, c1, hs1, -⟩, -⟩ := hat
    obtain ⟨-, ⟨a4, n4, k4, c4, hs4, -⟩, -⟩ := hat'
    rw [hss] at hs4
    obtain ⟨lab, ss, syn, room⟩ := t1
    simp only at hs1 hs4
    have hn1 := M.Strs.max hs1
    have hn4 := M.Strs.max hs4
    have h14 : n1 ≤ n4 := by rw [hs1.1, hs4.1, List.length_append]; omega
    have HC1 : Hid (∀ W, Below w6.heap.size w6 W → W.cell? ⟨h2, 0 + k * 4 + 1, none⟩ = some (.slice a1 n1 k1) ∧ M.Strs W a1 n1 k1 ss) := fun W hW => ⟨(World.cell?_of_block (a := ⟨h2, 0 + k * 4 + 1, none⟩) (hW.block h2 (World.block_lt_of_cell? w6 _ c1))).trans c1, hs1.below hW⟩
    have HC2 : Hid (∀ W, Below w6.heap.size w6 W → W.cell? ⟨b2', o2 + k * 4 + 1, none⟩ = some (.slice a4 n4 k4) ∧ M.Strs W a4 n4 k4 (ss ++ more)) := fun W hW => ⟨(World.cell?_of_block (a := ⟨b2', o2 + k * 4 + 1, none⟩) (hW.block b2' (World.block_lt_of_cell? w6 _ c4))).trans c4, hs4.below hW⟩
    have HC0 : Hid (∀ W, Below w6.heap.size w6 W → W.cell? ⟨w2.heap.size, 0, none⟩ = some (.slice (some ⟨b2', o2, none⟩) L c2)) := fun W hW => M.bk_cell (M.keepO X7.out hW) 0 _ rfl
    rw [Nat.zero_add] at HC1
    clear hfk hfk' hu hss c1 c4 hs1 hs4
    go_wp2
    go_loopw [10] (fun i wi => ∃ j : Nat, i = .int .i64 j ∧ j ≤ n1 ∧ Hid (Below w6.heap.size w6 wi)) (fun i _ => n1 - (intOf i).toNat)
    case atStart => exact ⟨0, rfl, Nat.zero_le _, HBr⟩
    case round =>
      obtain ⟨j, rfl, hj, HBi⟩ := hrel
      obtain ⟨f1, g1⟩ := HC1.out wr HBi.out
      obtain ⟨f2, g2⟩ := HC2.out wr HBi.out
      have f0 := HC0.out wr HBi.out
      by_cases hji : j < n1
      case neg =>
        clear g1 g2 f0 f2
        go_wp2
        go_roundw
        case rel => exact ⟨k + 1, by go_num, by omega, HBi⟩
        case measure => simp [intOf]; omega
      obtain ⟨l1, -, -, z1⟩ := g1
      obtain ⟨l2, -, -, z2⟩ := g2
      obtain ⟨p1, q1, rfl, r1⟩ := z1 (by omega)
      obtain ⟨p2, q2, rfl, r2⟩ := z2 (by omega)
      have s1 := r1 j (by omega)
      have s2 := r2 j (by omega)
      rw [List.getElem_append_left (by omega)] at s2
      generalize ss[j]'(by omega) = s at s1 s2
      have ds : (s.toList != s.toList) = false := by simp
      clear r1 r2 z1 z2 l1 l2
      go_wp2
      go_quiet (fail)
      clear f0 f1 f2 s1 s2
      go_wp2
      go_roundw
      case rel => exact ⟨j + 1, by go_num, by omega, below_drewN HBi.out _⟩
      case measure => simp [intOf]; omega
end Go.Proofs.Ytappficbjjkmiaa

/-
  How much a write onto tapes tells at most.
-/
namespace Go.Proofs.Ytappficbjjkmiaa
open Go.RowKit

theorem M.tln_few {us : List M.TapeD} (h : ∀ t ∈ us, t.ss.length ≤ 300) : M.tln us ≤ 300 * us.length := by
  induction us with
  | nil => exact Nat.le_refl _
  | cons t us ih =>
    have h1 := ih (fun u hu => h u (List.mem_cons_of_mem _ hu))
    have h2 := h t (List.mem_cons_self ..)
    have e : M.tln (t :: us) = t.ss.length + M.tln us := by simp [M.tln]
    rw [e, List.length_cons]
    omega
theorem M.tw_few (ok : Bool) (ts : List M.TapeD) (zs : List Int) (s : ByteArray) : (M.tw ok ts zs s).1.length ≤ 8 ∧ M.tln (M.tw ok ts zs s).1 ≤ 2400 ∧ (M.tw ok ts zs s).2.1.length ≤ 400 := by
  have hz : ([] : List M.TapeD).length ≤ 8 ∧ M.tln [] ≤ 2400 ∧ ([] : List M.PartD).length ≤ 400 := ⟨Nat.zero_le _, Nat.zero_le _, Nat.zero_le _⟩
  unfold M.tw
  split
  · exact hz
  next h =>
    split
    · next h2 =>
      split
      · next h3 =>
        have hr : M.tapesR ts = true := by rw [Bool.and_eq_true] at h2; exact h2.1
        obtain ⟨⟨-, h8⟩, hall⟩ := M.tapesR_iff.1 hr
        have hlen := M.wr_len zs ⟨ts, [], M.tbl s ((s.size + 63) / 64)⟩
        have hrt := (M.wr_right zs (x := ⟨ts, [], M.tbl s ((s.size + 63) / 64)⟩) hall M.tbl_size).1
        have hps := (M.wr_ps zs ⟨ts, [], M.tbl s ((s.size + 63) / 64)⟩).1
        have hfew := M.tln_few (us := (M.wr ⟨ts, [], M.tbl s ((s.size + 63) / 64)⟩ zs).ts) (fun t ht => by
          obtain ⟨-, ⟨-, r1⟩, r2, -⟩ := M.tapeR_iff.1 (hrt t ht)
          omega)
        have hx : (⟨ts, [], M.tbl s ((s.size + 63) / 64)⟩ : M.WrS).ps.length = 0 := rfl
        have hy : (⟨ts, [], M.tbl s ((s.size + 63) / 64)⟩ : M.WrS).ts.length = ts.length := rfl
        refine ⟨?_, ?_, ?_⟩
        · show (M.wr ⟨ts, [], M.tbl s ((s.size + 63) / 64)⟩ zs).ts.length ≤ 8
          omega
        · show M.tln (M.wr ⟨ts, [], M.tbl s ((s.size + 63) / 64)⟩ zs).ts ≤ 2400
          omega
        · show (M.wr ⟨ts, [], M.tbl s ((s.size + 63) / 64)⟩ zs).ps.length ≤ 400
          omega
      · exact hz
    · exact hz
end Go.Proofs.Ytappficbjjkmiaa

/-
  What DrawTapesRead of the specification draws: tapes, parts, a number; and what DrawTapesCrash draws: tapes and numbers.
-/
namespace Go.Proofs.Ytappficbjjkmiaa
open Go.RowKit

/-- A part with one number put in the place of another. -/
def M.pput (p : M.PartD) (f : Nat) (v : Int) : M.PartD :=
  if f = 0 then ⟨v, p.l, p.s, p.c⟩ else if f = 1 then ⟨p.q, v, p.s, p.c⟩ else if f = 2 then ⟨p.q, p.l, v, p.c⟩ else ⟨p.q, p.l, p.s, v⟩
theorem M.pput_ok {p : M.PartD} (h : M.pok p) (f : Nat) {v : Int} (h0 : -9223372036854775808 ≤ v) (h1 : v ≤ 9223372036854775807) : M.pok (M.pput p f v) := by
  obtain ⟨a, b, c, d⟩ := h
  unfold M.pput
  split
  · exact ⟨⟨h0, h1⟩, b, c, d⟩
  · split
    · exact ⟨a, ⟨h0, h1⟩, c, d⟩
    · split
      · exact ⟨a, b, ⟨h0, h1⟩, d⟩
      · exact ⟨a, b, c, ⟨h0, h1⟩⟩
theorem M.cop4 {W : World} {H i j : Nat} {v : Value} (h : i ≠ j) : (W.setCell ⟨H, i, none⟩ v).cell? ⟨H, j, none⟩ = W.cell? ⟨H, j, none⟩ := World.cell?_setCell_other _ _ _ _ (by intro e; simp only [Addr.mk.injEq] at e; omega)
theorem M.PtsAt.put {w : World} {g k f : Nat} {ps : List M.PartD} {p : M.PartD} (h : M.PtsAt w g 0 ps) (hk : ps[k]? = some p) (hf : f < 4) (v : Int) : M.PtsAt (w.setCell ⟨g, k * 4 + f, none⟩ (.int .i64 v)) g 0 (ps.set k (M.pput p f v)) := by
  intro i hi
  rw [List.length_set] at hi
  obtain ⟨c0, c1, c2, c3⟩ := h i hi
  rw [Nat.zero_add] at c0 c1 c2 c3 ⊢
  by_cases e : k = i
  · subst e
    have hp : ps[k] = p := (List.getElem?_eq_some_iff.1 hk).2
    rw [List.getElem_set_self]
    rw [hp] at c0 c1 c2 c3
    rcases (show f = 0 ∨ f = 1 ∨ f = 2 ∨ f = 3 by omega) with rfl | rfl | rfl | rfl
    · exact ⟨World.cell?_setCell_same _ _ _ c0, (M.cop4 (by omega)).trans c1, (M.cop4 (by omega)).trans c2, (M.cop4 (by omega)).trans c3⟩
    · exact ⟨(M.cop4 (by omega)).trans c0, World.cell?_setCell_same _ _ _ c1, (M.cop4 (by omega)).trans c2, (M.cop4 (by omega)).trans c3⟩
    · exact ⟨(M.cop4 (by omega)).trans c0, (M.cop4 (by omega)).trans c1, World.cell?_setCell_same _ _ _ c2, (M.cop4 (by omega)).trans c3⟩
    · exact ⟨(M.cop4 (by omega)).trans c0, (M.cop4 (by omega)).trans c1, (M.cop4 (by omega)).trans c2, World.cell?_setCell_same _ _ _ c3⟩
  · rw [List.getElem_set_ne e]
    exact ⟨(M.cop4 (by omega)).trans c0, (M.cop4 (by omega)).trans c1, (M.cop4 (by omega)).trans c2, (M.cop4 (by omega)).trans c3⟩
/-- A row of parts that can be written. -/
def M.PtW (w : World) (g n c : Nat) (ps : List M.PartD) : Prop := n = ps.length ∧ n ≤ c ∧ c ≤ maxLen ∧ M.PtsAt w g 0 ps ∧ ∃ cur, w.heap[g]? = some (.cells cur 47 (0, 0))
theorem M.PtW.of {w : World} {base n : Nat} {v : Value} {ps : List M.PartD} (h : M.OwnPt w base v ps) (hn : ps.length = n) (h1 : 0 < n) : ∃ g c, v = .slice (some ⟨g, 0, none⟩) n c ∧ base ≤ g ∧ M.PtW w g n c ps := by
  obtain ⟨a, c', e', hp⟩ := h.pts
  obtain ⟨hl, ⟨-, h0⟩ | ⟨g, cap, cur, e, hb, hh, hn2, hc, hz, ht⟩⟩ := h
  · omega
  · subst hn
    rw [e'] at e
    cases e
    obtain ⟨p1, p2, p3, p4⟩ := hp
    obtain ⟨b, off, e2, hat⟩ := p4 h1
    cases e2
    exact ⟨g, c', e', hb, rfl, hn2, hc, hat, cur, hh⟩
theorem M.PtW.pts {w : World} {g n c : Nat} {ps : List M.PartD} (h : M.PtW w g n c ps) : M.Pts w (some ⟨g, 0, none⟩) n c ps := ⟨h.1, h.2.1, h.2.2.1, fun _ => ⟨g, 0, rfl, h.2.2.2.1⟩⟩
theorem M.PtW.keep {w W : World} {g n c : Nat} {ps : List M.PartD} (h : M.PtW w g n c ps) (hb : W.heap[g]? = w.heap[g]?) : M.PtW W g n c ps := by
  obtain ⟨h1, h2, h3, h4, cur, hh⟩ := h
  exact ⟨h1, h2, h3, h4.of_block hb, cur, hb.trans hh⟩
theorem M.PtW.lt {w : World} {g n c : Nat} {ps : List M.PartD} (h : M.PtW w g n c ps) : g < w.heap.size := by
  obtain ⟨h1, h2, h3, h4, cur, hh⟩ := h
  exact (Array.getElem?_eq_some_iff.1 hh).1
theorem M.PtW.put {w : World} {g n c k f : Nat} {ps : List M.PartD} {p : M.PartD} (h : M.PtW w g n c ps) (hk : ps[k]? = some p) (hf : f < 4) (v : Int) : M.PtW (w.setCell ⟨g, k * 4 + f, none⟩ (.int .i64 v)) g n c (ps.set k (M.pput p f v)) := by
  obtain ⟨h1, h2, h3, h4, cur, hh⟩ := h
  exact ⟨by rw [List.length_set]; exact h1, h2, h3, h4.put hk hf v, M.cells_set hh _ _⟩
theorem M.PtW.at {w : World} {g n c k : Nat} {ps : List M.PartD} {p : M.PartD} (h : M.PtW w g n c ps) (hk : ps[k]? = some p) : w.cell? ⟨g, k * 4, none⟩ = some (.int .i64 p.q) ∧ w.cell? ⟨g, k * 4 + 1, none⟩ = some (.int .i64 p.l) ∧ w.cell? ⟨g, k * 4 + 2, none⟩ = some (.int .i64 p.s) ∧ w.cell? ⟨g, k * 4 + 3, none⟩ = some (.int .i64 p.c) ∧ ∀ j, w.frozen? ⟨g, j, none⟩ = false := by
  obtain ⟨h1, h2, h3, h4, cur, hh⟩ := h
  obtain ⟨hl, rfl⟩ := List.getElem?_eq_some_iff.1 hk
  obtain ⟨c0, c1, c2, c3⟩ := h4 k hl
  rw [Nat.zero_add] at c0 c1 c2 c3
  exact ⟨c0, c1, c2, c3, fun j => by simp [World.frozen?, hh]⟩
theorem M.pok_set {ps : List M.PartD} {k : Nat} {q : M.PartD} (h : ∀ p ∈ ps, M.pok p) (hq : M.pok q) : ∀ p ∈ ps.set k q, M.pok p := fun p hp => by
  rcases List.mem_or_eq_of_mem_set hp with h1 | rfl
  · exact h p h1
  · exact hq
theorem M.tri3 (w : World) (T : TypeId) (a b c : Int) (k : Nat) (hk : k < 3) (ha : -9223372036854775808 ≤ a ∧ a ≤ 9223372036854775807) (hb : -9223372036854775808 ≤ b ∧ b ≤ 9223372036854775807) (hc : -9223372036854775808 ≤ c ∧ c ≤ 9223372036854775807) : ∃ z : Int, -9223372036854775808 ≤ z ∧ z ≤ 9223372036854775807 ∧ (w.alloc (.cells #[.int .i64 a, .int .i64 b, .int .i64 c] T)).cell? ⟨w.heap.size, k, none⟩ = some (.int .i64 z) := by
  rw [World.cell?_alloc_mark]
  rcases (show k = 0 ∨ k = 1 ∨ k = 2 by omega) with rfl | rfl | rfl
  · exact ⟨a, ha.1, ha.2, rfl⟩
  · exact ⟨b, hb.1, hb.2, rfl⟩
  · exact ⟨c, hc.1, hc.2, rfl⟩
theorem M.OwnPt.byG {w W : World} {lo g : Nat} {v : Value} {ps : List M.PartD} (h : M.OwnPt w lo v ps) (hg : w.grownBy W (some g)) (hl : g < lo) : M.OwnPt W lo v ps :=
  h.grown hg (fun j hj e => by
    have h1 := (World.ownsRow.lt h j hj).1
    have h2 : j = g := Option.some.inj e
    omega)
/-- Tapes, parts and a number were drawn. -/
def M.TrDrawn (w : World) (e : Ending) (w' : World) : Prop :=
  ∃ (h2 n c : Nat) (qs : List (M.TapeD × Value)) (pa : Option Addr) (pn pc : Nat) (ps : List M.PartD) (m : Int), e = .returned (.tuple #[.slice (some ⟨h2, 0, none⟩) n c, .slice pa pn pc, .int .i64 m]) ∧ qs.length = n ∧ 1 ≤ n ∧ n ≤ 3 ∧ (∀ t ∈ qs.map Prod.fst, M.tfew t) ∧ M.OwnT w' w.heap.size w'.heap.size (.slice (some ⟨h2, 0, none⟩) n c) qs ∧ ps.length ≤ 400 ∧ (∀ p ∈ ps, M.pok p) ∧ M.Pts w' pa pn pc ps ∧ -2 ≤ m ∧ m ≤ 200 ∧ Below w.heap.size w w'
theorem M.lab_of {us : List M.TapeD} (hr : M.tapesR us = true) : ∀ {ps : List M.PartD} {K : List UInt8}, M.readB us ps = some K → ∀ p ∈ ps, 0 ≤ p.l ∧ p.l ≤ 1000000
  | [], _, _, p, hp => by simp at hp
  | q :: ps, K, h, p, hp => by
    unfold M.readB at h
    cases hq : M.partB us q with
    | none => rw [hq] at h; cases h
    | some bs =>
      rw [hq] at h
      simp only at h
      cases hk : M.readB us ps with
      | none => rw [hk] at h; cases h
      | some J =>
        rcases List.mem_cons.1 hp with rfl | h2
        · unfold M.partB at hq
          cases ht : us[p.q.toNat]? with
          | none => rw [ht] at hq; cases hq
          | some t =>
            rw [ht] at hq
            simp only at hq
            split at hq
            · next hc =>
              obtain ⟨⟨r1, r2⟩, -⟩ := M.tapeR_iff.1 ((M.tapesR_iff.1 hr).2 t (List.mem_of_getElem? ht))
              rw [← hc.2.1]
              exact ⟨r1, r2⟩
            · cases hq
        · exact M.lab_of hr hk p h2
theorem M.lab_tread {us : List M.TapeD} {ps : List M.PartD} {m : Int} {s : ByteArray} (hr : M.tapesR us = true) (h : M.tread us ps m = (s, 0)) : ∀ p ∈ ps, 0 ≤ p.l ∧ p.l ≤ 1000000 := by
  unfold M.tread at h
  split at h
  · cases h
  · split at h
    · cases h
    · cases hk : M.readB us ps with
      | none => rw [hk] at h; cases h
      | some K => exact M.lab_of hr hk

set_option maxRecDepth 100000 in
set_option maxHeartbeats 3200000 in
theorem drawTR_any (w : World) (a : Option Addr) (len cap : Nat) (hR : M.IsRow w a len cap) :
    Calls Try.prog 18 #[.slice a len cap] w fun e w' => M.TrDrawn w e w' := by
  have HR := M.hds hR
  clear hR
  have UP : Hid (∀ {W W' : World}, Below w.heap.size w W → W.grownBy W' (some w.heap.size) → Below w.heap.size w W') := fun hB hg => hB.grown hg hB.size (fun k hk => by have := Option.some.inj hk; omega)
  go_enter Try.func18, Try.ntmps18
  go_wp2_with fail
  refine (source_any _ a len cap HR.out).mono ?_
  rintro e w1 ⟨rfl, hS, hb⟩
  have HS1 := M.hds hS
  have HB1 := M.hds hb
  have hgw : w.heap.size < w1.heap.size := hS.lt
  clear hS hb
  go_wp2_with fail
  refine (src_tapes _ _ len cap a HS1.out).mono ?_
  rintro e w2 ⟨h2, n, c, qs, rfl, hqn, hn1, hn3, hF, hO, hS, hg⟩
  have HO2 := M.hds (hO.widen (lo' := w.heap.size + 1) hgw (Nat.le_refl _))
  have HF := M.hds hF
  have HQN := M.hds hqn
  have HS2 := M.hds hS
  have HB2 := M.hds (UP.out HB1.out hg)
  clear hqn hF hO hS hg HS1 HB1
  go_wp2_with fail
  refine (src_some _ _ len cap a _ n c HS2.out (by omega)).mono ?_
  rintro e w3 ⟨h3, zs, c3, rfl, hzs, hzc, hON, hS, hg⟩
  have HO3 : Hid (M.OwnT w3 (w.heap.size + 1) w3.heap.size (.slice (some ⟨h2, 0, none⟩) n c) qs) := (HO2.out.byG hg (Nat.lt_succ_self _)).widen (Nat.le_refl _) hg.size
  have HON3 := M.hds hON
  have HGS : Hid (w.heap.size < w2.heap.size) := HS2.out.lt
  have HS3 := M.hds hS
  have HB3 := M.hds (UP.out HB2.out hg)
  clear hON hS hg HO2 HS2 HB2
  go_wp2_with fail
  refine (src_n _ _ len cap a 150 HS3.out (by omega)).mono ?_
  rintro e w4 ⟨y, rfl, y0, y1, -, hS, hg⟩
  have y3 := y1 (by omega)
  obtain ⟨y, rfl⟩ := Int.eq_ofNat_of_zero_le y0
  have HO4 : Hid (M.OwnT w4 (w.heap.size + 1) w4.heap.size (.slice (some ⟨h2, 0, none⟩) n c) qs) := (HO3.out.byG hg (Nat.lt_succ_self _)).widen (Nat.le_refl _) hg.size
  have HON4 : Hid (M.OwnN w4 w2.heap.size (.slice (some ⟨h3, 0, none⟩) zs.length c3) zs) := HON3.out.grown hg (fun j hj e => by have := (World.ownsRow.lt HON3.out j hj).1; have := HGS.out; have := Option.some.inj e; omega)
  have HS4 := M.hds hS
  have HB4 := M.hds (UP.out HB3.out hg)
  clear y1 hS hg HO3 HS3 HB3 HON3
  go_wp2_with fail
  refine (src_bytes _ _ len cap a y HS4.out (by omega)).mono ?_
  rintro e w5 ⟨l, rfl, hll, hS, hg⟩
  have hls : (⟨l.toArray⟩ : ByteArray).size ≤ 150 := by rw [Lib.size_eq]; show l.length ≤ _; omega
  generalize (⟨l.toArray⟩ : ByteArray) = t0 at hls
  have HO5 : Hid (M.OwnT w5 (w.heap.size + 1) w5.heap.size (.slice (some ⟨h2, 0, none⟩) n c) qs) := (HO4.out.byG hg (Nat.lt_succ_self _)).widen (Nat.le_refl _) hg.size
  have hon5 : M.OwnN w5 w2.heap.size (.slice (some ⟨h3, 0, none⟩) zs.length c3) zs := HON4.out.grown hg (fun j hj e => by have := (World.ownsRow.lt HON4.out j hj).1; have := HGS.out; have := Option.some.inj e; omega)
  have HNV : Hid (M.NV w5 (some ⟨h3, 0, none⟩) zs.length zs) := by
    obtain ⟨a', c', e, hnv⟩ := hon5.nv
    cases e
    exact hnv
  have HS5 := M.hds hS
  have HB5 := M.hds (UP.out HB4.out hg)
  obtain ⟨ts, hts0⟩ : ∃ ts, ts = qs.map Prod.fst := ⟨_, rfl⟩
  have HT5 : Hid (M.Tps w5 (some ⟨h2, 0, none⟩) n c ts) := HO5.out.at_slice hts0.symm
  rw [← hts0] at HF
  have HTS := M.hds hts0
  clear hS hg hll HO4 HS4 HB4 HON4 hon5 hts0
  have hl : n + M.tln ts ≤ 1048576 := by
    have h1 := M.tln_few301 HF.out
    have h3 : ts.length = n := by rw [HTS.out, List.length_map]; exact HQN.out
    omega
  obtain ⟨ok, hok⟩ := M.ok_ex (M.useP n zs)
  obtain ⟨us, hus⟩ : ∃ us, us = (M.tw ok ts zs t0).1 := ⟨_, rfl⟩
  obtain ⟨pz, hpz⟩ : ∃ pz, pz = (M.tw ok ts zs t0).2.1 := ⟨_, rfl⟩
  obtain ⟨z, hz⟩ : ∃ z, z = (M.tw ok ts zs t0).2.2 := ⟨_, rfl⟩
  have hback : z = 0 → M.tapesR us = true ∧ M.ext ts us ∧ M.tread us pz (t0.size : Int) = (t0, 0) := fun h => by rw [hus, hpz]; exact M.tw_back (M.tw_ok hok) (by rw [← hz]; exact h)
  have hcode : z = 0 ∨ (us = [] ∧ pz = [] ∧ 1 ≤ z) := by rw [hus, hpz, hz]; exact M.tw_code ok ts zs t0
  have hfew : pz.length ≤ 400 := by
    have := (M.tw_few ok ts zs t0).2.2
    rw [hpz]; exact this
  have CS := M.hds (sTWrite_any w5 _ n c ts _ zs.length c3 zs t0 ok HT5.out (fun t ht => (HF.out t ht).1) hl HNV.out hzc (by omega) hok)
  unfold M.TwVal at CS
  rw [← hus, ← hpz, ← hz] at CS
  have HBACK := M.hds hback
  clear hok hus hpz hz hback hl
  clear ok
  go_wp2_with fail
  refine CS.out.mono ?_
  rintro e w6 ⟨v6, u6, qs6, rfl, hq6, hO6, hP6, hb⟩
  obtain ⟨va, vn, vc, rfl⟩ : ∃ a n c, v6 = .slice a n c := hO6.len.elim fun a ⟨c, e⟩ => ⟨a, _, c, e⟩
  obtain ⟨K, hK⟩ : ∃ K, K = pz.length := ⟨_, rfl⟩
  obtain ⟨ua, uc, rfl⟩ : ∃ a c, u6 = .slice a K c := by rw [hK]; exact hP6.len
  have hw5 : w.heap.size + 1 ≤ w5.heap.size := HS5.out.lt
  have HO6 := M.hds (HO5.out.below hb)
  have HON6 := M.hds (hO6.widen (lo' := w.heap.size + 1) hw5 (Nat.le_refl _))
  have HP6 := M.hds (hP6.down (b' := w.heap.size + 1) hw5)
  have HS6 := M.hds (M.srcB HS5.out hb)
  have HB6 := M.hds (M.sl HB5.out hb)
  have HQ6 := M.hds hq6
  have HSZ : Hid (w5.heap.size ≤ w6.heap.size) := hb.size
  have HKK := M.hds hK
  clear hq6 hO6 hP6 hb HO5 HT5 HS5 HB5 HNV CS hK
  have FIN : Hid (∀ (W : World) (h : Nat) (cc : Nat) (rs : List (M.TapeD × Value)) (pa : Option Addr) (pn pc : Nat) (ps : List M.PartD) (y : Int), M.OwnT W (w.heap.size + 1) W.heap.size (.slice (some ⟨h, 0, none⟩) n cc) rs → rs.length = n → (∀ t ∈ rs.map Prod.fst, M.tfew t) → ps.length ≤ 400 → (∀ p ∈ ps, M.pok p) → M.Pts W pa pn pc ps → 0 ≤ y → y < 160 → Below w.heap.size w W → M.TrDrawn w (.returned (.tuple #[.slice (some ⟨h, 0, none⟩) n cc, .slice pa pn pc, .int .i64 (y - 2)])) W) := fun W h cc rs pa pn pc ps y hO hl hf h4 hp hP hy0 hy1 hB =>
    ⟨h, n, cc, rs, pa, pn, pc, ps, y - 2, rfl, hl, hn1, hn3, hf, hO.widen (Nat.le_succ _) (Nat.le_refl _), h4, hp, hP, by omega, by omega, hB⟩
  have AL : Hid (∀ o, Below w6.heap.size w6 (w6.alloc o)) := fun o => (Below.refl _ _).alloc (Nat.le_refl _) _
  by_cases hz0 : z = 0
  case neg =>
    have dz : (z == 0) = false := by rw [beq_eq_false_iff_ne]; exact hz0
    have hpz : pz = [] := by
      rcases hcode with h | ⟨-, h, -⟩
      · exact absurd h hz0
      · exact h
    subst hpz
    obtain rfl : K = 0 := HKK.out
    have HF2 : Hid (∀ t ∈ qs.map Prod.fst, M.tfew t) := by show ∀ t ∈ _, _; rw [← HTS.out]; exact HF.out
    have HO7 : Hid (∀ o, M.OwnT (w6.alloc o) (w.heap.size + 1) (w6.alloc o).heap.size (.slice (some ⟨h2, 0, none⟩) n c) qs) := fun o => (HO6.out.below (AL.out o)).widen (Nat.le_refl _) (by have := HSZ.out; simp; omega)
    have HS7 : Hid (∀ o, M.Src w.heap.size a len cap (w6.alloc o)) := fun o => M.srcB HS6.out (AL.out o)
    have HB7 : Hid (∀ o, Below w.heap.size w (w6.alloc o)) := fun o => M.sl HB6.out (AL.out o)
    have HP7 : Hid (∀ o, M.OwnPt (w6.alloc o) (w.heap.size + 1) (.slice ua 0 uc) []) := fun o => HP6.out.below (AL.out o)
    clear HO6 HON6 HP6 HS6 HB6 HQ6 HKK hcode HBACK AL HSZ
    go_wp2_with fail
    refine (src_one _ _ len cap a 4 (HS7.out _) (by omega)).mono ?_
    rintro e w8 ⟨b, rfl, hS, hg⟩
    have HO8 : Hid (M.OwnT w8 (w.heap.size + 1) w8.heap.size (.slice (some ⟨h2, 0, none⟩) n c) qs) := ((HO7.out _).byG hg (Nat.lt_succ_self _)).widen (Nat.le_refl _) hg.size
    have HP8 : Hid (M.OwnPt w8 (w.heap.size + 1) (.slice ua 0 uc) []) := (HP7.out _).byG hg (Nat.lt_succ_self _)
    have HS8 := M.hds hS
    have HB8 := M.hds (UP.out (HB7.out _) hg)
    clear hS hg HO7 HS7 HB7 HP7
    cases b
    all_goals
      go_wp2_with fail
      refine (src_n _ _ len cap a 160 HS8.out (by omega)).mono ?_
      rintro e w9 ⟨x, rfl, x0, x1, -, hS, hg⟩
      have x3 := x1 (by omega)
      have HO9 : Hid (M.OwnT w9 (w.heap.size + 1) w9.heap.size (.slice (some ⟨h2, 0, none⟩) n c) qs) := (HO8.out.byG hg (Nat.lt_succ_self _)).widen (Nat.le_refl _) hg.size
      have HP9 : Hid (M.OwnPt w9 (w.heap.size + 1) (.slice ua 0 uc) []) := HP8.out.byG hg (Nat.lt_succ_self _)
      have HB9 := M.hds (UP.out HB8.out hg)
      clear x1 hS hg HO8 HP8 HS8 HB8
      go_wp2
      exact bodyPost_ret (v := .tuple #[.slice (some ⟨h2, 0, none⟩) n c, .slice ua 0 uc, .int .i64 (x - 2)]) (by simp [results, Try.results18, go_sem]) rfl (FIN.out _ h2 c qs ua 0 uc [] x HO9.out HQN.out HF2.out (Nat.zero_le _) (fun p hp => by simp at hp) HP9.out.at_slice x0 x3 HB9.out)
  obtain ⟨hr, hext, hread⟩ := HBACK.out hz0
  subst hz0
  have HPK := M.hds (M.pok_tread hr hread)
  have HLB := M.hds (M.lab_tread hr hread)
  have hl6 : qs6.length = n := by
    have := congrArg List.length HQ6.out
    rw [List.length_map, hext.1] at this
    rw [this, HTS.out, List.length_map]
    exact HQN.out
  have HL6 := M.hds hl6
  have HF6 : Hid (∀ t ∈ qs6.map Prod.fst, M.tfew t) := by
    show ∀ t ∈ _, _
    rw [HQ6.out]
    exact fun t ht => M.tfew_of ((M.tapesR_iff.1 hr).2 t ht)
  obtain ⟨h6, c6, he6⟩ := HON6.out.rowAt hl6 hn1
  cases he6
  have HO7 : Hid (∀ o, M.OwnT (w6.alloc o) (w.heap.size + 1) (w6.alloc o).heap.size (.slice (some ⟨h6, 0, none⟩) n vc) qs6) := fun o => (HON6.out.below (AL.out o)).widen (Nat.le_refl _) (by simp)
  have HS7 : Hid (∀ o, M.Src w.heap.size a len cap (w6.alloc o)) := fun o => M.srcB HS6.out (AL.out o)
  have HB7 : Hid (∀ o, Below w.heap.size w (w6.alloc o)) := fun o => M.sl HB6.out (AL.out o)
  have HP7 : Hid (∀ o, M.OwnPt (w6.alloc o) (w.heap.size + 1) (.slice ua K uc) pz) := fun o => HP6.out.below (AL.out o)
  clear HO6 HON6 HP6 HS6 HB6 HQ6 hcode HBACK AL HSZ hr hext hread hl6
  go_wp2_with fail
  refine (src_one _ _ len cap a 4 (HS7.out _) (by omega)).mono ?_
  rintro e w8 ⟨b, rfl, hS, hg⟩
  have HO8 : Hid (M.OwnT w8 (w.heap.size + 1) w8.heap.size (.slice (some ⟨h6, 0, none⟩) n vc) qs6) := ((HO7.out _).byG hg (Nat.lt_succ_self _)).widen (Nat.le_refl _) hg.size
  have HP8 : Hid (M.OwnPt w8 (w.heap.size + 1) (.slice ua K uc) pz) := (HP7.out _).byG hg (Nat.lt_succ_self _)
  have HS8 := M.hds hS
  have HB8 := M.hds (UP.out (HB7.out _) hg)
  clear hS hg HO7 HS7 HB7 HP7
  by_cases hbk : b = true ∧ 0 < K
  case neg =>
    have hbk2 : b = false ∨ K = 0 := by
      cases b
      · exact .inl rfl
      · exact .inr (by by_cases h : K = 0; exact h; exact absurd ⟨rfl, by omega⟩ hbk)
    clear hbk
    rcases hbk2 with rfl | rfl
    all_goals
      try cases b
      all_goals
        go_wp2_with fail
        refine (src_n _ _ len cap a 160 HS8.out (by omega)).mono ?_
        rintro e w9 ⟨x, rfl, x0, x1, -, hS, hg⟩
        have x3 := x1 (by omega)
        have HO9 : Hid (M.OwnT w9 (w.heap.size + 1) w9.heap.size (.slice (some ⟨h6, 0, none⟩) n vc) qs6) := (HO8.out.byG hg (Nat.lt_succ_self _)).widen (Nat.le_refl _) hg.size
        have HP9 : Hid (M.OwnPt w9 (w.heap.size + 1) (.slice ua _ uc) pz) := HP8.out.byG hg (Nat.lt_succ_self _)
        have HB9 := M.hds (UP.out HB8.out hg)
        clear x1 hS hg HO8 HP8 HS8 HB8
        go_wp2
        exact bodyPost_ret (v := .tuple #[.slice (some ⟨h6, 0, none⟩) n vc, .slice ua _ uc, .int .i64 (x - 2)]) (by simp [results, Try.results18, go_sem]) rfl (FIN.out _ h6 vc qs6 ua _ uc pz x HO9.out HL6.out HF6.out hfew HPK.out HP9.out.at_slice x0 x3 HB9.out)
  obtain ⟨rfl, hK0⟩ := hbk
  obtain ⟨gp, cp, hep, hgp, hpw⟩ := M.PtW.of HP8.out HKK.out.symm hK0
  cases hep
  have HPW := M.hds hpw
  have hgpw : w.heap.size < gp := by omega
  clear hpw hgp HP8
  have hK400 : K ≤ 400 := by have := HKK.out; omega
  go_wp2_with fail
  refine (src_n _ _ len cap a (K : Int) HS8.out (by omega)).mono ?_
  rintro e w9 ⟨x, rfl, x0, x1, x2, hS, hg⟩
  have hxK : x < (K : Int) := by
    by_cases h1 : 1 < (K : Int)
    · exact x1 h1
    · rw [x2 (by omega)]; omega
  obtain ⟨k, rfl⟩ := Int.eq_ofNat_of_zero_le x0
  have hkK : k < K := by omega
  have HO9 : Hid (M.OwnT w9 (w.heap.size + 1) w9.heap.size (.slice (some ⟨h6, 0, none⟩) n vc) qs6) := (HO8.out.byG hg (Nat.lt_succ_self _)).widen (Nat.le_refl _) hg.size
  have KP : Hid (∀ {W W' : World} {ps : List M.PartD}, M.PtW W gp K uc ps → W.grownBy W' (some w.heap.size) → M.PtW W' gp K uc ps) := fun h hg => h.keep (hg.block gp h.lt (fun e => by have := Option.some.inj e; omega))
  have HPW9 := M.hds (KP.out HPW.out hg)
  have HS9 := M.hds hS
  have HB9 := M.hds (UP.out HB8.out hg)
  clear x1 x2 hS hg HO8 HPW HS8 HB8 x0 hxK
  go_wp2_with fail
  refine (src_n _ _ len cap a 4 HS9.out (by omega)).mono ?_
  rintro e w10 ⟨x, rfl, x0, x1, -, hS, hg⟩
  have x4 := x1 (by omega)
  have HO10 : Hid (M.OwnT w10 (w.heap.size + 1) w10.heap.size (.slice (some ⟨h6, 0, none⟩) n vc) qs6) := (HO9.out.byG hg (Nat.lt_succ_self _)).widen (Nat.le_refl _) hg.size
  have HPW10 := M.hds (KP.out HPW9.out hg)
  have HS10 := M.hds hS
  have HB10 := M.hds (UP.out HB9.out hg)
  clear x1 hS hg HO9 HPW9 HS9 HB9
  obtain ⟨p, hpk⟩ : ∃ p, pz[k]? = some p := ⟨_, List.getElem?_eq_getElem (by have := HKK.out; omega)⟩
  have hpo := HPK.out p (List.mem_of_getElem? hpk)
  have HPO := M.hds hpo
  have hlb := HLB.out p (List.mem_of_getElem? hpk)
  have HKP := M.hds hpk
  have END : Hid (∀ (W : World) (f : Nat) (v : Int), f < 4 → -9223372036854775808 ≤ v → v ≤ 9223372036854775807 → M.OwnT W (w.heap.size + 1) W.heap.size (.slice (some ⟨h6, 0, none⟩) n vc) qs6 → M.PtW W gp K uc pz → M.Src w.heap.size a len cap W → Below w.heap.size w W →
      M.OwnT (W.setCell ⟨gp, k * 4 + f, none⟩ (.int .i64 v)) (w.heap.size + 1) (W.setCell ⟨gp, k * 4 + f, none⟩ (.int .i64 v)).heap.size (.slice (some ⟨h6, 0, none⟩) n vc) qs6 ∧ M.PtW (W.setCell ⟨gp, k * 4 + f, none⟩ (.int .i64 v)) gp K uc (pz.set k (M.pput p f v)) ∧ M.Src w.heap.size a len cap (W.setCell ⟨gp, k * 4 + f, none⟩ (.int .i64 v)) ∧ Below w.heap.size w (W.setCell ⟨gp, k * 4 + f, none⟩ (.int .i64 v)) ∧ ∀ q ∈ pz.set k (M.pput p f v), M.pok q) := fun W f v hf h0 h1 hO hP hS hB => by
    obtain ⟨cur, hh⟩ := hP.2.2.2.2
    have hx : W.grownBy (W.setCell ⟨gp, k * 4 + f, none⟩ (.int .i64 v)) (some gp) := M.grown_set (World.grownBy.refl W (some gp)) _ _
    exact ⟨hO.box (Nat.le_refl _) hh (by decide) (by decide) _ _, hP.put HKP.out hf v, hS.kept hx (fun k hk => by have := Option.some.inj hk; omega), hB.setCell (Nat.le_of_lt hgpw) _, M.pok_set HPK.out (M.pput_ok HPO.out f h0 h1)⟩
  clear hpk hpo
  rcases (show x = 0 ∨ x = 1 ∨ x = 2 ∨ x = 3 by omega) with rfl | rfl | rfl | rfl
  · obtain ⟨t0', t1', t2', t3', tf⟩ := HPW10.out.at HKP.out
    obtain ⟨e1, e2, e3, e4, e5⟩ := END.out w10 1 (p.l + 1) (by omega) (by omega) (by omega) HO10.out HPW10.out HS10.out HB10.out
    have E1 := M.hds e1
    have E2 := M.hds e2
    have E3 := M.hds e3
    have E4 := M.hds e4
    have E5 := M.hds e5
    clear e1 e2 e3 e4 e5
    go_wp2_with fail
    clear t0' t1' t2' t3' tf
    refine (src_n _ _ len cap a 160 E3.out (by omega)).mono ?_
    rintro e w11 ⟨x, rfl, x0, x1, -, hS, hg⟩
    have x3 := x1 (by omega)
    have E6 := M.hds ((E1.out.byG hg (Nat.lt_succ_self _)).widen (Nat.le_refl _) hg.size)
    have E7 := M.hds (KP.out E2.out hg).pts
    have E8 := M.hds (UP.out E4.out hg)
    clear x1 hS hg
    go_wp2
    exact bodyPost_ret (v := .tuple #[.slice (some ⟨h6, 0, none⟩) n vc, .slice (some ⟨gp, 0, none⟩) K uc, .int .i64 (x - 2)]) (by simp [results, Try.results18, go_sem]) rfl (FIN.out _ h6 vc qs6 _ K uc _ x E6.out HL6.out HF6.out (by rw [List.length_set]; exact hfew) E5.out E7.out x0 x3 E8.out)
  · go_wp2_with fail
    refine (src_edge _ _ len cap a HS10.out).mono ?_
    rintro e w11 ⟨v, rfl, v0, v1, hS, hg⟩
    have HO11 : Hid (M.OwnT w11 (w.heap.size + 1) w11.heap.size (.slice (some ⟨h6, 0, none⟩) n vc) qs6) := (HO10.out.byG hg (Nat.lt_succ_self _)).widen (Nat.le_refl _) hg.size
    have HPW11 := M.hds (KP.out HPW10.out hg)
    have HS11 := M.hds hS
    have HB11 := M.hds (UP.out HB10.out hg)
    clear hS hg HO10 HPW10 HS10 HB10
    have AL : Hid (∀ o, Below w11.heap.size w11 (w11.alloc o)) := fun o => (Below.refl _ _).alloc (Nat.le_refl _) _
    have HO12 : Hid (∀ o, M.OwnT (w11.alloc o) (w.heap.size + 1) (w11.alloc o).heap.size (.slice (some ⟨h6, 0, none⟩) n vc) qs6) := fun o => (HO11.out.below (AL.out o)).widen (Nat.le_refl _) (by simp)
    have HPW12 : Hid (∀ o, M.PtW (w11.alloc o) gp K uc pz) := fun o => HPW11.out.keep ((AL.out o).block gp HPW11.out.lt)
    have HS12 : Hid (∀ o, M.Src w.heap.size a len cap (w11.alloc o)) := fun o => M.srcB HS11.out (AL.out o)
    have HB12 : Hid (∀ o, Below w.heap.size w (w11.alloc o)) := fun o => M.sl HB11.out (AL.out o)
    have hg11 : w.heap.size < w11.heap.size := HS11.out.lt
    clear HO11 HPW11 HS11 HB11 AL
    go_wp2_with fail
    refine (src_n _ _ len cap a 3 (HS12.out _) (by omega)).mono ?_
    rintro e w13 ⟨y, rfl, y0, y1, -, hS, hg⟩
    have y3 := y1 (by omega)
    obtain ⟨y, rfl⟩ := Int.eq_ofNat_of_zero_le y0
    obtain ⟨v2, z0, z1, hcz⟩ := M.tri3 w11 2 (-1) 99 v y (by omega) (by decide) (by decide) ⟨v0, v1⟩
    have cz := hg.cell hcz (by simp; omega)
    have HO13 : Hid (M.OwnT w13 (w.heap.size + 1) w13.heap.size (.slice (some ⟨h6, 0, none⟩) n vc) qs6) := ((HO12.out _).byG hg (Nat.lt_succ_self _)).widen (Nat.le_refl _) hg.size
    have HPW13 := M.hds (KP.out (HPW12.out _) hg)
    have HS13 := M.hds hS
    have HB13 := M.hds (UP.out (HB12.out _) hg)
    clear y1 hS hg hcz HO12 HPW12 HS12 HB12
    obtain ⟨t0', t1', t2', t3', tf⟩ := HPW13.out.at HKP.out
    obtain ⟨e1, e2, e3, e4, e5⟩ := END.out w13 3 v2 (by omega) z0 z1 HO13.out HPW13.out HS13.out HB13.out
    have E1 := M.hds e1
    have E2 := M.hds e2
    have E3 := M.hds e3
    have E4 := M.hds e4
    have E5 := M.hds e5
    clear e1 e2 e3 e4 e5
    go_wp2_with fail
    clear t0' t1' t2' t3' tf
    refine (src_n _ _ len cap a 160 E3.out (by omega)).mono ?_
    rintro e w14 ⟨x, rfl, x0, x1, -, hS, hg⟩
    have x3 := x1 (by omega)
    have E6 := M.hds ((E1.out.byG hg (Nat.lt_succ_self _)).widen (Nat.le_refl _) hg.size)
    have E7 := M.hds (KP.out E2.out hg).pts
    have E8 := M.hds (UP.out E4.out hg)
    clear x1 hS hg
    go_wp2
    exact bodyPost_ret (v := .tuple #[.slice (some ⟨h6, 0, none⟩) n vc, .slice (some ⟨gp, 0, none⟩) K uc, .int .i64 (x - 2)]) (by simp [results, Try.results18, go_sem]) rfl (FIN.out _ h6 vc qs6 _ K uc _ x E6.out HL6.out HF6.out (by rw [List.length_set]; exact hfew) E5.out E7.out x0 x3 E8.out)
  · go_wp2_with fail
    refine (src_edge _ _ len cap a HS10.out).mono ?_
    rintro e w11 ⟨v, rfl, v0, v1, hS, hg⟩
    have HO11 : Hid (M.OwnT w11 (w.heap.size + 1) w11.heap.size (.slice (some ⟨h6, 0, none⟩) n vc) qs6) := (HO10.out.byG hg (Nat.lt_succ_self _)).widen (Nat.le_refl _) hg.size
    have HPW11 := M.hds (KP.out HPW10.out hg)
    have HS11 := M.hds hS
    have HB11 := M.hds (UP.out HB10.out hg)
    clear hS hg HO10 HPW10 HS10 HB10
    obtain ⟨t0', t1', t2', t3', tf⟩ := HPW11.out.at HKP.out
    obtain ⟨e1, e2, e3, e4, e5⟩ := END.out w11 2 v (by omega) v0 v1 HO11.out HPW11.out HS11.out HB11.out
    have E1 := M.hds e1
    have E2 := M.hds e2
    have E3 := M.hds e3
    have E4 := M.hds e4
    have E5 := M.hds e5
    clear e1 e2 e3 e4 e5
    go_wp2_with fail
    clear t0' t1' t2' t3' tf
    refine (src_n _ _ len cap a 160 E3.out (by omega)).mono ?_
    rintro e w14 ⟨x, rfl, x0, x1, -, hS, hg⟩
    have x3 := x1 (by omega)
    have E6 := M.hds ((E1.out.byG hg (Nat.lt_succ_self _)).widen (Nat.le_refl _) hg.size)
    have E7 := M.hds (KP.out E2.out hg).pts
    have E8 := M.hds (UP.out E4.out hg)
    clear x1 hS hg
    go_wp2
    exact bodyPost_ret (v := .tuple #[.slice (some ⟨h6, 0, none⟩) n vc, .slice (some ⟨gp, 0, none⟩) K uc, .int .i64 (x - 2)]) (by simp [results, Try.results18, go_sem]) rfl (FIN.out _ h6 vc qs6 _ K uc _ x E6.out HL6.out HF6.out (by rw [List.length_set]; exact hfew) E5.out E7.out x0 x3 E8.out)
  · go_wp2_with fail
    refine (src_n _ _ len cap a 6 HS10.out (by omega)).mono ?_
    rintro e w11 ⟨v, rfl, v0, v1, -, hS, hg⟩
    have v6 := v1 (by omega)
    have HO11 : Hid (M.OwnT w11 (w.heap.size + 1) w11.heap.size (.slice (some ⟨h6, 0, none⟩) n vc) qs6) := (HO10.out.byG hg (Nat.lt_succ_self _)).widen (Nat.le_refl _) hg.size
    have HPW11 := M.hds (KP.out HPW10.out hg)
    have HS11 := M.hds hS
    have HB11 := M.hds (UP.out HB10.out hg)
    clear v1 hS hg HO10 HPW10 HS10 HB10
    obtain ⟨t0', t1', t2', t3', tf⟩ := HPW11.out.at HKP.out
    obtain ⟨e1, e2, e3, e4, e5⟩ := END.out w11 0 (v - 1) (by omega) (by omega) (by omega) HO11.out HPW11.out HS11.out HB11.out
    rw [Nat.add_zero] at e1 e2 e3 e4
    have E1 := M.hds e1
    have E2 := M.hds e2
    have E3 := M.hds e3
    have E4 := M.hds e4
    have E5 := M.hds e5
    clear e1 e2 e3 e4 e5
    go_wp2_with fail
    clear t0' t1' t2' t3' tf
    refine (src_n _ _ len cap a 160 E3.out (by omega)).mono ?_
    rintro e w14 ⟨x, rfl, x0, x1, -, hS, hg⟩
    have x3 := x1 (by omega)
    have E6 := M.hds ((E1.out.byG hg (Nat.lt_succ_self _)).widen (Nat.le_refl _) hg.size)
    have E7 := M.hds (KP.out E2.out hg).pts
    have E8 := M.hds (UP.out E4.out hg)
    clear x1 hS hg
    go_wp2
    exact bodyPost_ret (v := .tuple #[.slice (some ⟨h6, 0, none⟩) n vc, .slice (some ⟨gp, 0, none⟩) K uc, .int .i64 (x - 2)]) (by simp [results, Try.results18, go_sem]) rfl (FIN.out _ h6 vc qs6 _ K uc _ x E6.out HL6.out HF6.out (by rw [List.length_set]; exact hfew) E5.out E7.out x0 x3 E8.out)
end Go.Proofs.Ytappficbjjkmiaa

/-
  What DrawTapesCrash of the specification draws: tapes and numbers.
-/
namespace Go.Proofs.Ytappficbjjkmiaa
open Go.RowKit

/-- Tapes and numbers were drawn. -/
def M.TcDrawn (w : World) (e : Ending) (w' : World) : Prop :=
  ∃ (h2 n c : Nat) (qs : List (M.TapeD × Value)) (h3 m c3 : Nat) (zs : List Int), e = .returned (.tuple #[.slice (some ⟨h2, 0, none⟩) n c, .slice (some ⟨h3, 0, none⟩) m c3]) ∧ qs.length = n ∧ 1 ≤ n ∧ n ≤ 3 ∧ (∀ t ∈ qs.map Prod.fst, M.tfew t) ∧ M.OwnT w' w.heap.size w'.heap.size (.slice (some ⟨h2, 0, none⟩) n c) qs ∧ m ≤ 100 ∧ m ≤ c3 ∧ M.NV w' (some ⟨h3, 0, none⟩) m zs ∧ Below w.heap.size w w'

set_option maxRecDepth 100000 in
set_option maxHeartbeats 1600000 in
theorem drawTC_any (w : World) (a : Option Addr) (len cap : Nat) (hR : M.IsRow w a len cap) :
    Calls Try.prog 15 #[.slice a len cap] w fun e w' => M.TcDrawn w e w' := by
  have HR := M.hds hR
  clear hR
  have UP : Hid (∀ {W W' : World}, Below w.heap.size w W → W.grownBy W' (some w.heap.size) → Below w.heap.size w W') := fun hB hg => hB.grown hg hB.size (fun k hk => by have := Option.some.inj hk; omega)
  go_enter Try.func15, Try.ntmps15
  go_wp2_with fail
  refine (source_any _ a len cap HR.out).mono ?_
  rintro e w1 ⟨rfl, hS, hb⟩
  have HS1 := M.hds hS
  have HB1 := M.hds hb
  have hgw : w.heap.size < w1.heap.size := hS.lt
  clear hS hb
  go_wp2_with fail
  refine (src_tapes _ _ len cap a HS1.out).mono ?_
  rintro e w2 ⟨h2, n, c, qs, rfl, hqn, hn1, hn3, hF, hO, hS, hg⟩
  have HO2 := M.hds (hO.widen (lo' := w.heap.size + 1) hgw (Nat.le_refl _))
  have HF := M.hds hF
  have HQN := M.hds hqn
  have HS2 := M.hds hS
  have HB2 := M.hds (UP.out HB1.out hg)
  clear hqn hF hO hS hg HS1 HB1
  have FIN : Hid (∀ (W : World) (h3 m c3 : Nat) (zs : List Int), M.OwnT W (w.heap.size + 1) W.heap.size (.slice (some ⟨h2, 0, none⟩) n c) qs → m ≤ 100 → m ≤ c3 → M.NV W (some ⟨h3, 0, none⟩) m zs → Below w.heap.size w W → M.TcDrawn w (.returned (.tuple #[.slice (some ⟨h2, 0, none⟩) n c, .slice (some ⟨h3, 0, none⟩) m c3])) W) := fun W h3 m c3 zs hO h1 h2' hN hB =>
    ⟨h2, n, c, qs, h3, m, c3, zs, rfl, HQN.out, hn1, hn3, HF.out, hO.widen (Nat.le_succ _) (Nat.le_refl _), h1, h2', hN, hB⟩
  go_wp2_with fail
  refine (src_one _ _ len cap a 10 HS2.out (by omega)).mono ?_
  rintro e w4 ⟨b, rfl, hS, hg⟩
  have HO4 : Hid (M.OwnT w4 (w.heap.size + 1) w4.heap.size (.slice (some ⟨h2, 0, none⟩) n c) qs) := (HO2.out.byG hg (Nat.lt_succ_self _)).widen (Nat.le_refl _) hg.size
  have HS4 := M.hds hS
  have HB4 := M.hds (UP.out HB2.out hg)
  clear hS hg HO2 HS2 HB2
  cases b
  · go_wp2_with fail
    refine (src_n _ _ len cap a 5 HS4.out (by omega)).mono ?_
    rintro e w5 ⟨y, rfl, y0, y1, -, hS, hg⟩
    have y3 := y1 (by omega)
    obtain ⟨y, rfl⟩ := Int.eq_ofNat_of_zero_le y0
    have HO5 : Hid (M.OwnT w5 (w.heap.size + 1) w5.heap.size (.slice (some ⟨h2, 0, none⟩) n c) qs) := (HO4.out.byG hg (Nat.lt_succ_self _)).widen (Nat.le_refl _) hg.size
    have HS5 := M.hds hS
    have HB5 := M.hds (UP.out HB4.out hg)
    clear y1 hS hg HO4 HS4 HB4
    go_wp2_with fail
    refine (src_list2 _ _ len cap a y (-1) 6 HS5.out (by omega) (by omega) (by omega) (by omega) (by omega) (by omega)).mono ?_
    rintro e w6 ⟨h6, zs6, c6, rfl, hzs6, hzc6, hON, hS, hg⟩
    have HO6 : Hid (M.OwnT w6 (w.heap.size + 1) w6.heap.size (.slice (some ⟨h2, 0, none⟩) n c) qs) := (HO5.out.byG hg (Nat.lt_succ_self _)).widen (Nat.le_refl _) hg.size
    have HNV : Hid (M.NV w6 (some ⟨h6, 0, none⟩) zs6.length zs6) := by
      obtain ⟨a', c', e, hnv⟩ := hON.nv
      cases e
      exact hnv
    have HB6 := M.hds (UP.out HB5.out hg)
    clear hON hS hg HO5 HS5 HB5
    go_wp2
    exact bodyPost_ret (v := .tuple #[.slice (some ⟨h2, 0, none⟩) n c, .slice (some ⟨h6, 0, none⟩) zs6.length c6]) (by simp [results, Try.results15, go_sem]) rfl (FIN.out _ h6 _ c6 zs6 HO6.out hzs6 hzc6 HNV.out HB6.out)
  · go_wp2_with fail
    refine (src_edge _ _ len cap a HS4.out).mono ?_
    rintro e w5 ⟨v, rfl, v0, v1, hS, hg⟩
    have HO5 : Hid (M.OwnT w5 (w.heap.size + 1) w5.heap.size (.slice (some ⟨h2, 0, none⟩) n c) qs) := (HO4.out.byG hg (Nat.lt_succ_self _)).widen (Nat.le_refl _) hg.size
    have HB5 := M.hds (UP.out HB4.out hg)
    have AL : Hid (∀ o, Below w5.heap.size w5 (w5.alloc o)) := fun o => (Below.refl _ _).alloc (Nat.le_refl _) _
    have HNV : Hid (M.NV (w5.alloc (.cells #[.int .i64 v] 2)) (some ⟨w5.heap.size, 0, none⟩) 1 [v]) := ⟨rfl, fun _ => ⟨w5.heap.size, 0, rfl, fun i hi => by
      obtain rfl : i = 0 := by simpa using hi
      simp⟩⟩
    have HO6 : Hid (∀ o, M.OwnT (w5.alloc o) (w.heap.size + 1) (w5.alloc o).heap.size (.slice (some ⟨h2, 0, none⟩) n c) qs) := fun o => (HO5.out.below (AL.out o)).widen (Nat.le_refl _) (by simp)
    have HB6 : Hid (∀ o, Below w.heap.size w (w5.alloc o)) := fun o => M.sl HB5.out (AL.out o)
    clear hS hg HO4 HS4 HB4
    go_wp2
    exact bodyPost_ret (v := .tuple #[.slice (some ⟨h2, 0, none⟩) n c, .slice (some ⟨w5.heap.size, 0, none⟩) 1 1]) (by simp [results, Try.results15, go_sem]) rfl (FIN.out _ _ 1 1 [v] (HO6.out _) (by omega) (by omega) HNV.out (HB6.out _))
end Go.Proofs.Ytappficbjjkmiaa

/-
  What slices.Clone of tapes, leftOf and TapesCrash of the program do.
-/
namespace Go.Proofs.Ytappficbjjkmiaa
open Go.RowKit Go.Deep

/-- How many blocks a crash leaves of a tape. -/
def M.leftN (t : M.TapeD) (k : Int) : Nat := min t.ss.length (t.syn.toNat + k.toNat)
/-- The tape with those blocks alone, and with the number of these. -/
def M.tleft (t : M.TapeD) (k : Int) : M.TapeD := ⟨t.lab, t.ss.take (M.leftN t k), t.syn, t.room⟩
def M.tcrash (t : M.TapeD) (k : Int) : M.TapeD := ⟨t.lab, t.ss.take (M.leftN t k), (M.leftN t k : Int), t.room⟩
theorem M.tcrash_eq (t : M.TapeD) (k : Int) : M.tsync (M.tleft t k) = M.tcrash t k := by
  unfold M.tsync M.tleft M.tcrash
  simp only [List.length_take]
  rw [Nat.min_eq_left (show M.leftN t k ≤ t.ss.length from Nat.min_le_left _ _)]
def M.tz : M.TapeD := ⟨0, [], 0, 0⟩
/-- The first k tapes, shortened. -/
def M.lefts (ts : List M.TapeD) (ks : List Int) (k : Nat) : List M.TapeD := (List.range k).map fun i => M.tleft (ts[i]?.getD M.tz) (ks[i]?.getD 0)
theorem M.lefts_succ {ts : List M.TapeD} {ks : List Int} {k : Nat} {t : M.TapeD} (h : ts[k]? = some t) : M.lefts ts ks (k + 1) = M.lefts ts ks k ++ [M.tleft t (ks[k]?.getD 0)] := by
  unfold M.lefts
  rw [List.range_succ, List.map_append]
  simp [h]
theorem M.lefts_len (ts : List M.TapeD) (ks : List Int) (k : Nat) : (M.lefts ts ks k).length = k := by simp [M.lefts]
/-- The tapes that TapesCrash tells. -/
def M.crashT (ts : List M.TapeD) (ks : List Int) : List M.TapeD := if 400 < ts.length ∨ 400 < ks.length then [] else if M.tapesR ts = true then (M.lefts ts ks ts.length).map M.tsync else ts
theorem M.lefts_tln (ts : List M.TapeD) (ks : List Int) : ∀ k, k ≤ ts.length → M.tln (M.lefts ts ks k) ≤ M.tln (ts.take k)
  | 0, _ => by simp [M.lefts, M.tln]
  | k + 1, h => by
    have hk := List.getElem?_eq_getElem (l := ts) (i := k) (by omega)
    rw [M.lefts_succ hk, M.tln_app, M.tln_one, M.tln_take hk]
    have := M.lefts_tln ts ks k (by omega)
    have : (M.tleft ts[k] (ks[k]?.getD 0)).ss.length ≤ ts[k].ss.length := by
      unfold M.tleft
      simp only [List.length_take]
      exact Nat.min_le_right _ _
    omega

theorem M.OwnT.readT {w : World} {b off : Nat} {p : M.TapeD × Value} (h0 : w.cell? ⟨b, off, none⟩ = some (.int .i64 p.1.lab)) (h1 : w.cell? ⟨b, off + 1, none⟩ = some p.2) (h2 : w.cell? ⟨b, off + 2, none⟩ = some (.int .i64 p.1.syn)) (h3 : w.cell? ⟨b, off + 3, none⟩ = some (.int .i64 p.1.room)) (hv : ∃ a n c, p.2 = .slice a n c ∧ M.Strs w a n c p.1.ss ∧ (a = none → c = 0)) : M.TpAt w b off p.1 := by
  obtain ⟨a, n, c, e, hs, hz⟩ := hv
  exact ⟨h0, ⟨a, n, c, by rw [h1, e], hs, hz⟩, h2, h3⟩

theorem M.eqlNil (W : World) (ad : Addr) (n c : Nat) : (binOp .eql 23 (.slice (some ad) n c) (.slice none 0 0)).run Try.prog W = .ok (.bool false) W := by
  simp only [binOp]
  simp [run_equal_slice_nil W 23 36 (some ad) n c Try.underlying23]
/-- The cells of a slice of tapes, as a list, with where the blocks lie. -/
theorem M.Tps.cellsS {w : World} {ad : Addr} {n c : Nat} {ts : List M.TapeD} (h : M.Tps w (some ad) n c ts) : ∃ qs : List (M.TapeD × Value), qs.map Prod.fst = ts ∧ (∀ j u, (M.cellsT qs)[j]? = some u → w.cell? (ad.add j) = some u) ∧ ∀ p ∈ qs, ∃ a n c, p.2 = .slice a n c ∧ M.Strs w a n c p.1.ss ∧ (a = none → c = 0) := by
  obtain ⟨qs, h1, h2, h3⟩ := h.cells
  refine ⟨qs, h1, h2, fun p hp => ?_⟩
  obtain ⟨i, hi⟩ := List.getElem?_of_mem hp
  have hil := (List.getElem?_eq_some_iff.1 hi).1
  have hn : n = qs.length := by rw [h.1, ← h1, List.length_map]
  obtain ⟨b, off, t, e, ht, c0, ⟨a', n', c', c1, hs, hz⟩, c2, c3⟩ := h.at (k := i) (by omega)
  obtain rfl := Option.some.inj e
  have hpt : p.1 = t := by
    have : (qs.map Prod.fst)[i]? = some p.1 := by rw [List.getElem?_map, hi]; rfl
    rw [h1] at this
    exact Option.some.inj (this.symm.trans ht)
  have hc := h2 (i * 4 + 1) p.2 (by
    rw [M.cellsT_get qs i hil 1 (by omega), (List.getElem?_eq_some_iff.1 hi).2]
    rfl)
  rw [Addr.add_lit, show off + (i * 4 + 1) = off + i * 4 + 1 by omega, c1] at hc
  exact ⟨a', n', c', (Option.some.inj hc).symm, by rw [hpt]; exact hs, hz⟩

set_option maxRecDepth 100000 in
set_option maxHeartbeats 1600000 in
theorem iCloneTp_any (w : World) (ad : Addr) (n c : Nat) (ts : List M.TapeD) (h : M.Tps w (some ad) n c ts) (hl : n ≤ 1048576) :
    Calls Try.prog 58 #[.slice (some ad) n c] w fun e w' => ∃ (g cap : Nat) (qs : List (M.TapeD × Value)), e = .returned (.slice (some ⟨g, 0, none⟩) n cap) ∧ n ≤ cap ∧ cap ≤ maxLen ∧ w.heap.size ≤ g ∧ qs.map Prod.fst = ts ∧ M.Row w' g 36 (cap * 4) ∧ M.PAt w' g qs ∧ (∀ p ∈ qs, ∃ a n c, p.2 = .slice a n c ∧ M.Strs w a n c p.1.ss ∧ (a = none → c = 0)) ∧ Below w.heap.size w w' := by
  obtain ⟨i0, hi, hz0, hz1, hz2⟩ := info_parts Try.infoTp
  have HF := M.hl h
  have HN : Hid (n = ts.length) := h.1
  have BO : Hid (∀ o, Below w.heap.size w (w.alloc o)) := fun o => (Below.refl _ _).alloc (Nat.le_refl _) _
  clear h
  obtain ⟨qs, hq1, hq2, hq3⟩ := HF.out.cellsS
  have hql : qs.length = n := by rw [HN.out, ← hq1, List.length_map]
  have HQ1 := M.hl hq1
  have HQL := M.hl hql
  have HQ3 := M.hl hq3
  have HSRC : Hid (∀ o, ∀ j u, (M.cellsT qs)[j]? = some u → (w.alloc o).cell? (ad.add j) = some u) := fun o => by
    intro j u hj
    have h0 := hq2 j u hj
    have hb : ad.block < w.heap.size := by
      have := World.block_lt_of_cell? w _ h0
      unfold Addr.add at this
      split at this <;> simpa using this
    have := (BO.out o).cell (p := ad.add j) (by unfold Addr.add; split <;> simpa using hb)
    exact this.trans h0
  have HONE : Hid (∀ u ∈ M.cellsT qs, u.oneCell' = true) := fun u hu => by
    obtain ⟨p, hp, hup⟩ := List.mem_flatMap.1 hu
    obtain ⟨a1, n1, c1, e, -⟩ := hq3 p hp
    simp [M.tcells] at hup
    rcases hup with rfl | rfl | rfl | rfl
    · rfl
    · rw [e]; rfl
    · rfl
    · rfl
  clear hq1 hq2 hq3 hql
  go_enter Try.func58, Try.ntmps58
  have hnil := fun W => M.eqlNil W ad n c
  go_wp2_with (at_builtin; refine wpList_append_own _ rfl (.tmp 5) (.tmp 6) 23 rfl w.heap.size 36 i0 (.agg #[.int .i64 0, .slice none 0 0, .int .i64 0, .int .i64 0]) 4 48 Try.underlying23 hi hz0 hz1 hz2 rfl (by decide) (.slice (some ⟨w.heap.size, 0, none⟩) 0 0) 0 [] rfl ?s1 ad n c (M.cellsT qs) rfl ?c1 ?s2 HONE.out ?c3 ?c4 ?c5 ?_)
  case s1 => exact M.emptyT w w.heap.size (Nat.le_refl _)
  case s2 => exact HSRC.out _
  case c1 => rw [M.cellsT_len, HQL.out]
  case c3 => unfold maxLen; omega
  case c4 => omega
  case c5 => simp
  intro v1 w1 hown hgrow hnn
  try simp only [Nat.zero_add, List.nil_append] at hown
  have B1 : Hid (Below w.heap.size w w1) := (BO.out _).grown hgrow (BO.out _).size (fun k hk => by have := Option.some.inj hk; simp at this; omega)
  obtain ⟨hl0, ⟨rfl, h0⟩ | ⟨g, cap, cur, rfl, hb, hh, hnc, hc, hz, ht⟩⟩ := hown
  · exact (hnn rfl).elim
  have HP1 : Hid (M.PAt w1 g qs) := M.pat_of hh (by rw [HQL.out]; exact ht)
  have HR1 : Hid (M.Row w1 g 36 (cap * 4)) := ⟨cur, hh, hz⟩
  clear hl0 hh hz ht hgrow hnn
  go_wp2
  go_ret
  exact ⟨g, cap, qs, rfl, hnc, hc, hb, HQ1.out, HR1.out, HP1.out, HQ3.out, B1.out⟩

theorem M.Strs.take {w : World} {a : Option Addr} {n c m : Nat} {ss : List ByteArray} (h : M.Strs w a n c ss) (hm : m ≤ n) : M.Strs w a m c (ss.take m) := h.pre m hm

set_option maxRecDepth 100000 in
set_option maxHeartbeats 3200000 in
theorem iLeftOf_any (w : World) (a : Option Addr) (n c : Nat) (ss : List ByteArray) (x y z k : Int) (h : M.Strs w a n c ss) (hz : a = none → c = 0) (hl : n ≤ 1048576) (hy0 : 0 ≤ y) (hy1 : y ≤ (n : Int)) :
    Calls Try.prog 59 #[.agg #[.int .i64 x, .slice a n c, .int .i64 y, .int .i64 z], .int .i64 k] w fun e w' => e = .returned (.agg #[.int .i64 x, .slice a (M.leftN ⟨x, ss, y, z⟩ k) c, .int .i64 y, .int .i64 z]) ∧ Below w.heap.size w w' := by
  have hn := h.1
  have hnc := h.2.1
  have hcm := h.2.2.1
  have HB : Hid (∀ o1 o2, Below w.heap.size w ((w.alloc o1).alloc o2)) := fun o1 o2 => ((Below.refl _ _).alloc (Nat.le_refl _) _).alloc (by simp) _
  obtain ⟨Y, rfl⟩ := Int.eq_ofNat_of_zero_le hy0
  obtain ⟨m, hm⟩ : ∃ m, m = M.leftN ⟨x, ss, (Y : Int), z⟩ k := ⟨_, rfl⟩
  have hmv : m = min n (Y + k.toNat) := by rw [hm]; unfold M.leftN; simp only [Int.toNat_natCast]; rw [← hn]
  rw [← hm]
  have hmn : m ≤ n := by omega
  have hmc : m ≤ c := by omega
  have e1 : (Y : Int) + min (max k 0) ((n : Int) - (Y : Int)) = (m : Int) := by omega
  have hcm2 : c ≤ 9223372036854775807 := by unfold maxLen at hcm; omega
  have E1 := M.hl e1
  clear h hm hn hcm hmv
  cases a with
  | none =>
    obtain rfl := hz rfl
    have hm0 : m = 0 := by omega
    have hn0 : n = 0 := by omega
    subst hm0 hn0
    have hY0 : Y = 0 := by omega
    subst hY0
    have hmx : min (max k 0) (0 : Int) = 0 := by omega
    clear hz hmn hmc hcm2 e1 E1 hnc hl hy0 hy1
    go_enter Try.func59, Try.ntmps59
    go_wp2
    refine bodyPost_ret (v := .agg #[.int .i64 x, .slice none 0 0, .int .i64 0, .int .i64 z]) (by simp [results, Try.results59, go_sem]) rfl ⟨rfl, ?_⟩
    exact HB.out _ _
  | some ad =>
    clear hz
    go_enter Try.func59, Try.ntmps59
    go_wp2
    refine bodyPost_ret (v := .agg #[.int .i64 x, .slice (some ad) m c, .int .i64 (Y : Int), .int .i64 z]) (by simp [results, Try.results59, go_sem]) rfl ⟨rfl, ?_⟩
    exact HB.out _ _
end Go.Proofs.Ytappficbjjkmiaa

/-
  What TapeClear of the program does.
-/
namespace Go.Proofs.Ytappficbjjkmiaa
open Go.RowKit

/-- The tapes that TapeClear tells, and its code. -/
def M.clearO (ts : List M.TapeD) (k : Int) : List M.TapeD × Int :=
  if 400 < ts.length then ([], 2) else
  if M.tapesR ts = true ∧ 0 ≤ k ∧ k < (ts.length : Int) then
    (match ts[k.toNat]? with
    | some t => if t.lab = 1000000 then ([], 8) else (ts.take k.toNat ++ ⟨t.lab + 1, [], 0, t.room⟩ :: ts.drop (k.toNat + 1), 0)
    | none => ([], 1))
  else ([], 1)
theorem M.clear_long {ts : List M.TapeD} {k : Int} (h : 400 < ts.length) : M.clearO ts k = ([], 2) := by unfold M.clearO; rw [if_pos h]
theorem M.clear_no {ts : List M.TapeD} {k : Int} (h : ¬ 400 < ts.length) (h2 : ¬ (M.tapesR ts = true ∧ 0 ≤ k ∧ k < (ts.length : Int))) : M.clearO ts k = ([], 1) := by unfold M.clearO; rw [if_neg h, if_neg h2]
theorem M.clear_last {ts : List M.TapeD} {k : Nat} {t : M.TapeD} (h : ¬ 400 < ts.length) (h2 : M.tapesR ts = true) (hk : ts[k]? = some t) (hl : t.lab = 1000000) : M.clearO ts (k : Int) = ([], 8) := by
  have := (List.getElem?_eq_some_iff.1 hk).1
  unfold M.clearO; rw [if_neg h, if_pos ⟨h2, by omega, by omega⟩, Int.toNat_natCast, hk]
  simp only
  rw [if_pos hl]
theorem M.clear_yes {ts : List M.TapeD} {k : Nat} {t : M.TapeD} (h : ¬ 400 < ts.length) (h2 : M.tapesR ts = true) (hk : ts[k]? = some t) (hl : ¬ t.lab = 1000000) : M.clearO ts (k : Int) = (ts.take k ++ ⟨t.lab + 1, [], 0, t.room⟩ :: ts.drop (k + 1), 0) := by
  have := (List.getElem?_eq_some_iff.1 hk).1
  unfold M.clearO; rw [if_neg h, if_pos ⟨h2, by omega, by omega⟩, Int.toNat_natCast, hk]
  simp only
  rw [if_neg hl]
/-- One tape is put in the place of another, with no blocks. -/
theorem M.OwnT.clr {w : World} {lo hi g n cap k : Nat} {qs : List (M.TapeD × Value)} {p : M.TapeD × Value} (h : M.OwnT w lo hi (.slice (some ⟨g, 0, none⟩) n cap) qs) (hk : qs[k]? = some p) (x z : Int) :
    M.OwnT ((((w.setCell ⟨g, k * 4, none⟩ (.int .i64 x)).setCell ⟨g, k * 4 + 1, none⟩ (.slice none 0 0)).setCell ⟨g, k * 4 + 2, none⟩ (.int .i64 0)).setCell ⟨g, k * 4 + 3, none⟩ (.int .i64 z)) lo hi (.slice (some ⟨g, 0, none⟩) n cap) (qs.take k ++ (⟨x, [], 0, z⟩, .slice none 0 0) :: qs.drop (k + 1)) := by
  obtain ⟨hl, hb, hn, hc, hr, hp⟩ := h.place
  have hkl := (List.getElem?_eq_some_iff.1 hk).1
  have hsp := M.split_at hk
  have hlen : (qs.take k ++ ((⟨x, [], 0, z⟩ : M.TapeD), Value.slice none 0 0) :: qs.drop (k + 1)).length = n := by
    have := congrArg List.length hsp
    simp only [List.length_append, List.length_cons] at this ⊢
    omega
  have hA : (qs.take k).length = k := by rw [List.length_take]; omega
  obtain ⟨c0, c1, c2, c3⟩ := hp k _ hk
  have hold : ∀ j, j ≠ k * 4 → j ≠ k * 4 + 1 → j ≠ k * 4 + 2 → j ≠ k * 4 + 3 → ((((w.setCell ⟨g, k * 4, none⟩ (.int .i64 x)).setCell ⟨g, k * 4 + 1, none⟩ (.slice none 0 0)).setCell ⟨g, k * 4 + 2, none⟩ (.int .i64 0)).setCell ⟨g, k * 4 + 3, none⟩ (.int .i64 z)).cell? ⟨g, j, none⟩ = w.cell? ⟨g, j, none⟩ := fun j h0 h1 h2 h3 => by
    rw [M.co4 (by omega), M.co4 (by omega), M.co4 (by omega), M.co4 (by omega)]
  have hP : M.PAt ((((w.setCell ⟨g, k * 4, none⟩ (.int .i64 x)).setCell ⟨g, k * 4 + 1, none⟩ (.slice none 0 0)).setCell ⟨g, k * 4 + 2, none⟩ (.int .i64 0)).setCell ⟨g, k * 4 + 3, none⟩ (.int .i64 z)) g (qs.take k ++ (⟨x, [], 0, z⟩, .slice none 0 0) :: qs.drop (k + 1)) := by
    intro j r hr'
    by_cases e : j = k
    · subst e
      rw [List.getElem?_append_right (by omega), hA, Nat.sub_self] at hr'
      obtain rfl := Option.some.inj hr'
      refine ⟨?_, ?_, ?_, ?_⟩
      · rw [M.co4 (by omega), M.co4 (by omega), M.co4 (by omega), World.cell?_setCell_same _ _ _ c0]
      · rw [M.co4 (by omega), M.co4 (by omega), World.cell?_setCell_same _ _ _ ((M.co4 (by omega)).trans c1)]
      · rw [M.co4 (by omega), World.cell?_setCell_same _ _ _ ((M.co4 (by omega)).trans ((M.co4 (by omega)).trans c2))]
      · rw [World.cell?_setCell_same _ _ _ ((M.co4 (by omega)).trans ((M.co4 (by omega)).trans ((M.co4 (by omega)).trans c3)))]
    · have hq : qs[j]? = some r := by
        rw [hsp]
        by_cases hj : j < (qs.take k).length
        · rw [List.getElem?_append_left hj] at hr' ⊢; exact hr'
        · rw [List.getElem?_append_right (by omega)] at hr' ⊢
          obtain ⟨t, ht⟩ : ∃ t, j - (qs.take k).length = t + 1 := ⟨j - (qs.take k).length - 1, by omega⟩
          rw [ht] at hr' ⊢
          exact hr'
      obtain ⟨e0, e1, e2, e3⟩ := hp j r hq
      exact ⟨by rw [hold _ (by omega) (by omega) (by omega) (by omega)]; exact e0, by rw [hold _ (by omega) (by omega) (by omega) (by omega)]; exact e1, by rw [hold _ (by omega) (by omega) (by omega) (by omega)]; exact e2, by rw [hold _ (by omega) (by omega) (by omega) (by omega)]; exact e3⟩
  have hE := M.each.set (M.each.set (M.each.set (M.each.set h.each hr (k * 4) (.int .i64 x)) (hr.setCell _ _) (k * 4 + 1) (.slice none 0 0)) ((hr.setCell _ _).setCell _ _) (k * 4 + 2) (.int .i64 0)) (((hr.setCell _ _).setCell _ _).setCell _ _) (k * 4 + 3) (.int .i64 z)
  have hAp := h.apart
  rw [hsp] at hAp
  obtain ⟨a1, a2, a3⟩ := List.pairwise_append.1 hAp
  refine ⟨?_, h.top, fun r hr' => ?_, ?_⟩
  · have := M.row_of (cap := cap) (lo := lo) hP ((((hr.setCell _ _).setCell _ _).setCell _ _).setCell _ _) hb (by rw [hlen]; exact hn) hc
    rwa [hlen] at this ⊢
  · rcases List.mem_append.1 hr' with h1 | h1
    · exact hE r (List.mem_of_mem_take h1)
    · rcases List.mem_cons.1 h1 with rfl | h2
      · exact ⟨M.OwnS.nil _ _, (fun g hg => by cases hg)⟩
      · exact hE r (List.mem_of_mem_drop h2)
  · refine List.pairwise_append.2 ⟨a1, List.pairwise_cons.2 ⟨(fun q _ g hg => by cases hg), (List.pairwise_cons.1 a2).2⟩, fun r hr' q hq => ?_⟩
    rcases List.mem_cons.1 hq with rfl | h2
    · intro g _ e; cases e
    · exact a3 r hr' q (List.mem_cons_of_mem _ h2)

set_option maxRecDepth 100000 in
set_option maxHeartbeats 6400000 in
theorem iClear_any (w : World) (a : Option Addr) (n c : Nat) (ts : List M.TapeD) (k : Int) (h : M.Tps w a n c ts) (hok : ∀ t ∈ ts, M.tok t) (hsm : ∀ t ∈ ts, ∀ s ∈ t.ss, s.size ≤ 100000000) (hl : n + M.tln ts ≤ 1048576) :
    Calls Try.prog 22 #[.slice a n c, .int .i64 k] w fun e w' => ∃ (v : Value) (qs : List (M.TapeD × Value)), e = .returned (.agg #[v, .slice none 0 0, .string ⟨#[]⟩, .int .i64 (M.clearO ts k).2]) ∧ qs.map Prod.fst = (M.clearO ts k).1 ∧ M.OwnT w' w.heap.size w'.heap.size v qs ∧ Below w.heap.size w w' := by
  have HF := M.hl h
  have HSM := M.hl hsm
  have HN : Hid (n = ts.length) := h.1
  have hnl : n ≤ 1048576 := by omega
  have HL := M.hl hl
  have BO : Hid (∀ o, Below w.heap.size w (w.alloc o)) := fun o => (Below.refl _ _).alloc (Nat.le_refl _) _
  have CR : Hid (∀ o, Calls Try.prog 14 #[.slice a n c] (w.alloc o) fun e w' => e = .returned (.bool (M.tapesR ts)) ∧ Below (w.alloc o).heap.size (w.alloc o) w') := fun o => iTapesR_any _ a n c ts (h.below (BO.out o)) hok
  have CI := M.hl (fun W => iIsTape_any W a n c k (by omega))
  have HOK := M.hl hok
  clear h hok hsm hl
  by_cases h4 : 400 < n
  · have HE := M.hl (M.clear_long (ts := ts) (k := k) (by have := HN.out; omega))
    rw [HE.out]
    go_enter Try.func22, Try.ntmps22
    go_wp2
    refine bodyPost_ret (v := .agg #[.slice none 0 0, .slice none 0 0, .string ⟨#[]⟩, .int .i64 2]) (by simp [results, Try.results22, go_sem]) rfl ⟨_, [], rfl, rfl, M.OwnT.nil _ _ _, ?_⟩
    exact BO.out _
  have h4' : decide (400 < (n : Int)) = false := decide_eq_false (by omega)
  cases hr : M.tapesR ts
  · have HE := M.hl (M.clear_no (ts := ts) (k := k) (by have := HN.out; omega) (fun h => by rw [hr] at h; cases h.1))
    rw [HE.out]
    rw [hr] at CR
    clear hr
    go_enter Try.func22, Try.ntmps22
    go_wp2_with fail
    refine (CR.out _).mono ?_
    rintro e w1 ⟨rfl, hb⟩
    have u0 := (hb.block w.heap.size (by simp)).trans (heap_alloc_new w (.cells #[.slice none 0 0, .slice none 0 0, .string ⟨#[]⟩, .int .i64 0] 29))
    have r0 := M.bk_cell u0 0 (.slice none 0 0) rfl
    have r1 := M.bk_cell u0 1 (.slice none 0 0) rfl
    have r2 := M.bk_cell u0 2 (.string ⟨#[]⟩) rfl
    have r3 := M.bk_cell u0 3 (.int .i64 0) rfl
    have fr := M.bk_free u0
    have B1 := M.hl (M.bxd_below hb)
    clear hb u0
    go_wp2
    refine bodyPost_ret (v := .agg #[.slice none 0 0, .slice none 0 0, .string ⟨#[]⟩, .int .i64 1]) (by simp [results, Try.results22, go_sem, r0, r1, r2, r3]) rfl ⟨_, [], rfl, rfl, M.OwnT.nil _ _ _, ?_⟩
    exact (((B1.out.setCell (by simp) _).setCell (by simp) _).setCell (by simp) _).setCell (by simp) _
  rw [hr] at CR
  by_cases hk : 0 ≤ k ∧ k < (n : Int)
  case neg =>
    have HE := M.hl (M.clear_no (ts := ts) (k := k) (by have := HN.out; omega) (fun h => hk (by rw [HN.out]; exact h.2)))
    rw [HE.out]
    rw [decide_eq_false hk] at CI
    clear hr hk
    go_enter Try.func22, Try.ntmps22
    go_wp2_with fail
    refine (CR.out _).mono ?_
    rintro e w1 ⟨rfl, hb⟩
    have u0 := (hb.block w.heap.size (by simp)).trans (heap_alloc_new w (.cells #[.slice none 0 0, .slice none 0 0, .string ⟨#[]⟩, .int .i64 0] 29))
    have r0 := M.bk_cell u0 0 (.slice none 0 0) rfl
    have r1 := M.bk_cell u0 1 (.slice none 0 0) rfl
    have r2 := M.bk_cell u0 2 (.string ⟨#[]⟩) rfl
    have r3 := M.bk_cell u0 3 (.int .i64 0) rfl
    have fr := M.bk_free u0
    have B1 := M.hl (M.bxd_below hb)
    clear hb u0
    go_wp2_with fail
    refine (CI.out _).mono ?_
    rintro e w2 ⟨rfl, rfl⟩
    go_wp2
    refine bodyPost_ret (v := .agg #[.slice none 0 0, .slice none 0 0, .string ⟨#[]⟩, .int .i64 1]) (by simp [results, Try.results22, go_sem, r0, r1, r2, r3]) rfl ⟨_, [], rfl, rfl, M.OwnT.nil _ _ _, ?_⟩
    exact (((B1.out.setCell (by simp) _).setCell (by simp) _).setCell (by simp) _).setCell (by simp) _
  rw [decide_eq_true hk] at CI
  obtain ⟨hk0, hk1⟩ := hk
  obtain ⟨k, rfl⟩ := Int.eq_ofNat_of_zero_le hk0
  have hkn : k < n := by omega
  obtain ⟨b, off, t, rfl, hfk, hat⟩ := HF.out.at hkn
  have HFK := M.hl hfk
  have hrt := M.tapeR_iff.1 ((M.tapesR_iff.1 hr).2 t (List.mem_of_getElem? hfk))
  have HR := M.hl hr
  obtain ⟨x, ss, y, z⟩ := t
  obtain ⟨⟨hx0, hx1⟩, -⟩ := hrt
  simp only at hx0 hx1
  obtain ⟨c0, -, -, c3⟩ := hat
  simp only at c0 c3
  have C0 : Hid (∀ W, Below w.heap.size w W → W.cell? ⟨b, off + k * 4, none⟩ = some (.int .i64 x)) := fun W hW => (hW.cell (p := ⟨b, off + k * 4, none⟩) (World.block_lt_of_cell? w _ c0)).trans c0
  have C3 : Hid (∀ W, Below w.heap.size w W → W.cell? ⟨b, off + k * 4 + 3, none⟩ = some (.int .i64 z)) := fun W hW => (hW.cell (p := ⟨b, off + k * 4 + 3, none⟩) (World.block_lt_of_cell? w _ c3)).trans c3
  have HBL : Hid (b < w.heap.size) := World.block_lt_of_cell? w _ c0
  clear hr hfk c0 c3 hk0 hk1
  by_cases hl : x = 1000000
  · have HE := M.hl (M.clear_last (by have := HN.out; omega) HR.out HFK.out hl)
    rw [HE.out]
    subst hl
    go_enter Try.func22, Try.ntmps22
    go_wp2_with fail
    refine (CR.out _).mono ?_
    rintro e w1 ⟨rfl, hb⟩
    have u0 := (hb.block w.heap.size (by simp)).trans (heap_alloc_new w (.cells #[.slice none 0 0, .slice none 0 0, .string ⟨#[]⟩, .int .i64 0] 29))
    have r0 := M.bk_cell u0 0 (.slice none 0 0) rfl
    have r1 := M.bk_cell u0 1 (.slice none 0 0) rfl
    have r2 := M.bk_cell u0 2 (.string ⟨#[]⟩) rfl
    have r3 := M.bk_cell u0 3 (.int .i64 0) rfl
    have fr := M.bk_free u0
    have B1 := M.hl (M.bxd_below hb)
    have q0 := C0.out w1 B1.out
    clear hb u0
    go_wp2_with fail
    refine (CI.out _).mono ?_
    rintro e w2 ⟨rfl, rfl⟩
    go_wp2
    refine bodyPost_ret (v := .agg #[.slice none 0 0, .slice none 0 0, .string ⟨#[]⟩, .int .i64 8]) (by simp [results, Try.results22, go_sem, r0, r1, r2, r3]) rfl ⟨_, [], rfl, rfl, M.OwnT.nil _ _ _, ?_⟩
    exact (((B1.out.setCell (by simp) _).setCell (by simp) _).setCell (by simp) _).setCell (by simp) _
  have HE := M.hl (M.clear_yes (by have := HN.out; omega) HR.out HFK.out hl)
  have dl : ((x : Int) == 1000000) = false := by rw [beq_eq_false_iff_ne]; exact hl
  clear hl
  go_enter Try.func22, Try.ntmps22
  go_wp2_with fail
  refine (CR.out _).mono ?_
  rintro e w1 ⟨rfl, hb⟩
  have U0 := M.hl ((hb.block w.heap.size (by simp)).trans (heap_alloc_new w (.cells #[.slice none 0 0, .slice none 0 0, .string ⟨#[]⟩, .int .i64 0] 29)))
  have B1 := M.hl (M.bxd_below hb)
  have q0 := C0.out w1 B1.out
  clear hb
  go_wp2_with fail
  refine (CI.out _).mono ?_
  rintro e w2 ⟨rfl, rfl⟩
  go_wp2_with fail
  refine (iEachC_any w1 (some ⟨b, off, none⟩) n c ts (HF.out.below B1.out) HSM.out HL.out).mono ?_
  rintro e w3 ⟨v, qs, rfl, hq, hO, hb⟩
  have hql : qs.length = n := by rw [HN.out, ← hq, List.length_map]
  obtain ⟨g, vc, rfl⟩ : ∃ g vc, v = .slice (some ⟨g, 0, none⟩) n vc := by
    obtain ⟨⟨-, ⟨-, h0⟩ | ⟨g, cap, cur, e, -⟩⟩, -, -, -⟩ := hO
    · omega
    · rw [hql] at e; exact ⟨g, cap, e⟩
  have HO := M.hl hO
  have HQ := M.hl hq
  have B3 := M.hl (M.sl B1.out hb)
  have hz1 : w.heap.size < w1.heap.size := (Array.getElem?_eq_some_iff.1 U0.out).1
  have U3 := M.hl ((hb.block _ hz1).trans U0.out)
  have BA : Hid (∀ o, Below w.heap.size w (w3.alloc o)) := fun o => B3.out.alloc B3.out.size _
  clear hb hO hq q0
  obtain ⟨W4, hW4⟩ : ∃ W4, W4 = w3.alloc (.cells #[.slice (some ⟨g, 0, none⟩) n vc, .slice none 0 0, .string ⟨#[]⟩, .int .i64 0] 29) := ⟨_, rfl⟩
  have E4 : Hid (W4.heap[w3.heap.size]? = some (.cells #[.slice (some ⟨g, 0, none⟩) n vc, .slice none 0 0, .string ⟨#[]⟩, .int .i64 0] 29 (0, 0))) := by rw [hW4]; exact heap_alloc_new _ _
  have U4 : Hid (W4.heap[w.heap.size]? = some (.cells #[.slice none 0 0, .slice none 0 0, .string ⟨#[]⟩, .int .i64 0] 29 (0, 0))) := by rw [hW4]; exact (heap_alloc_old _ _ (Array.getElem?_eq_some_iff.1 U3.out).1).trans U3.out
  have B4 : Hid (Below w.heap.size w W4) := by rw [hW4]; exact BA.out _
  have O4 : Hid (M.OwnT W4 w1.heap.size w3.heap.size (.slice (some ⟨g, 0, none⟩) n vc) qs) := by rw [hW4]; exact HO.out.below ((Below.refl _ _).alloc (Nat.le_refl _) _)
  have HW4 := M.hl hW4
  have ZW4 : Hid (W4.heap.size = w3.heap.size + 1) := by rw [hW4]; show _ = _; simp
  clear hW4 BA HO U0 U3
  obtain ⟨-, hgb, hnc, -, hR4, hP4⟩ := O4.out.place
  have hqk : ∃ u, qs[k]? = some (⟨x, ss, y, z⟩, u) := by
    have h1 : (qs.map Prod.fst)[k]? = some ⟨x, ss, y, z⟩ := by rw [HQ.out]; exact HFK.out
    rw [List.getElem?_map] at h1
    cases hq : qs[k]? with
    | none => rw [hq] at h1; cases h1
    | some p => rw [hq] at h1; exact ⟨p.2, by rw [← Option.some.inj h1]⟩
  obtain ⟨u, hqk⟩ := hqk
  have HQK := M.hl hqk
  obtain ⟨g0, g1, g2, g3⟩ := hP4 k _ hqk
  simp only at g0 g1 g2 g3
  have fg := hR4.free
  have hgt : g < w3.heap.size := O4.out.top g rfl
  have HGB := M.hl hgb
  have q0 := C0.out W4 B4.out
  have q3 := C3.out W4 B4.out
  have e0 := M.bk_cell E4.out 0 (.slice (some ⟨g, 0, none⟩) n vc) rfl
  have hwx : IntKind.i64.wrap (x + 1) = x + 1 := by rw [IntKind.wrap_i64]; omega
  clear hqk hP4 hR4 hnc hgb
  go_wp2_with fail
  rw [← HW4.out]
  go_region_with (fail)
  all_goals
    obtain ⟨W5, hW5⟩ : ∃ W5, W5 = ((((W4.setCell ⟨g, k * 4, none⟩ (.int .i64 (x + 1))).setCell ⟨g, k * 4 + 1, none⟩ (.slice none 0 0)).setCell ⟨g, k * 4 + 2, none⟩ (.int .i64 0)).setCell ⟨g, k * 4 + 3, none⟩ (.int .i64 z)).drew := ⟨_, rfl⟩
    have O5 := M.hl ((O4.out.clr HQK.out (x + 1) z).below (Below.refl _ _).drew)
    have E5 : Hid (W5.heap[w3.heap.size]? = some (.cells #[.slice (some ⟨g, 0, none⟩) n vc, .slice none 0 0, .string ⟨#[]⟩, .int .i64 0] 29 (0, 0))) := by
      rw [hW5]; exact (M.setfr (by omega)).trans ((M.setfr (by omega)).trans ((M.setfr (by omega)).trans ((M.setfr (by omega)).trans E4.out)))
    have U5 : Hid (W5.heap[w.heap.size]? = some (.cells #[.slice none 0 0, .slice none 0 0, .string ⟨#[]⟩, .int .i64 0] 29 (0, 0))) := by
      have := HGB.out
      rw [hW5]; exact (M.setfr (by omega)).trans ((M.setfr (by omega)).trans ((M.setfr (by omega)).trans ((M.setfr (by omega)).trans U4.out)))
    have B5 : Hid (Below w.heap.size w W5) := by
      have := HGB.out
      rw [hW5]; exact ((((B4.out.setCell (by simp; omega) _).setCell (by simp; omega) _).setCell (by simp; omega) _).setCell (by simp; omega) _).trans (Below.refl _ _).drew
    rw [← hW5] at O5
    rw [← hW5]
    have HZ1 := M.hl hz1
    clear hW5 O4 E4 U4 B4 g0 g1 g2 g3 fg q0 q3 e0
    have e0 := M.bk_cell E5.out 0 (.slice (some ⟨g, 0, none⟩) n vc) rfl
    have e1 := M.bk_cell E5.out 1 (.slice none 0 0) rfl
    have e2 := M.bk_cell E5.out 2 (.string ⟨#[]⟩) rfl
    have e3 := M.bk_cell E5.out 3 (.int .i64 0) rfl
    have r0 := M.bk_cell U5.out 0 (.slice none 0 0) rfl
    have r1 := M.bk_cell U5.out 1 (.slice none 0 0) rfl
    have r2 := M.bk_cell U5.out 2 (.string ⟨#[]⟩) rfl
    have r3 := M.bk_cell U5.out 3 (.int .i64 0) rfl
    have fr := M.bk_free U5.out
    have hne : ¬ (w.heap.size = w3.heap.size) := by have := B3.out.size; have := HGB.out; omega
    go_wp2
    refine bodyPost_ret (v := .agg #[.slice (some ⟨g, 0, none⟩) n vc, .slice none 0 0, .string ⟨#[]⟩, .int .i64 0]) (by simp [results, Try.results22, go_sem, r0, r1, r2, r3]) rfl ?_
    rw [HE.out]
    refine ⟨_, _, rfl, ?_, (O5.out.mid (((((M.Mid.refl w.heap.size (w.heap.size + 1) W5).setCell (Nat.le_refl _) (by omega) 0 (.slice (some ⟨g, 0, none⟩) n vc)).setCell (Nat.le_refl _) (by omega) 1 (.slice none 0 0)).setCell (Nat.le_refl _) (by omega) 2 (.string ⟨#[]⟩)).setCell (Nat.le_refl _) (by omega) 3 (.int .i64 0)) (.inr (by have := HZ1.out; omega))).widen (by have := HZ1.out; omega) (by have := (Array.getElem?_eq_some_iff.1 E5.out).1; simp [World.setCell]; omega), (((B5.out.setCell (by simp) _).setCell (by simp) _).setCell (by simp) _).setCell (by simp) _⟩
    rw [List.map_append, List.map_cons, List.map_take, List.map_drop, HQ.out]
end Go.Proofs.Ytappficbjjkmiaa

/-
  What is left behind a crash, and what is read behind a tape was cleared; with no word of the program.
-/
namespace Go.Proofs.Ytappficbjjkmiaa
open Go.RowKit

theorem M.crash_get {ts : List M.TapeD} {ks : List Int} (hr : M.tapesR ts = true) (hk : ks.length ≤ 400) {i : Nat} {t : M.TapeD} (ht : ts[i]? = some t) : ∃ k, (M.crashT ts ks)[i]? = some (M.tcrash t k) := by
  have h8 := (M.tapesR_iff.1 hr).1.2
  have hi := (List.getElem?_eq_some_iff.1 ht).1
  unfold M.crashT
  rw [if_neg (by omega), if_pos hr]
  refine ⟨ks[i]?.getD 0, ?_⟩
  rw [List.getElem?_map]
  unfold M.lefts
  rw [List.getElem?_map, List.getElem?_range hi]
  simp [ht, M.tcrash_eq]
theorem M.crash_len {ts : List M.TapeD} {ks : List Int} (hr : M.tapesR ts = true) (hk : ks.length ≤ 400) : (M.crashT ts ks).length = ts.length := by
  have h8 := (M.tapesR_iff.1 hr).1.2
  unfold M.crashT
  rw [if_neg (by omega), if_pos hr, List.length_map, M.lefts_len]
theorem M.tcrash_keeps {t : M.TapeD} (h : M.tapeR t = true) (k : Int) : t.syn ≤ ((M.tcrash t k).ss.length : Int) ∧ (M.tcrash t k).syn = ((M.tcrash t k).ss.length : Int) := by
  obtain ⟨-, -, -, ⟨h0, h1⟩, -⟩ := M.tapeR_iff.1 h
  unfold M.tcrash M.leftN
  simp only [List.length_take]
  constructor <;> omega
theorem M.sync_crash {ts : List M.TapeD} (hr : M.tapesR ts = true) : M.crashT (M.syncT ts) [] = M.syncT ts := by
  obtain ⟨⟨h1, h8⟩, hall⟩ := M.tapesR_iff.1 hr
  have e : M.syncT ts = ts.map M.tsync := by unfold M.syncT; rw [if_neg (by omega), if_pos hr]
  have hs : M.tapesR (ts.map M.tsync) = true := by
    refine M.tapesR_iff.2 ⟨by rw [List.length_map]; exact ⟨h1, h8⟩, fun t ht => ?_⟩
    obtain ⟨u, hu, rfl⟩ := List.mem_map.1 ht
    obtain ⟨a1, a2, a3, a4, a5⟩ := M.tapeR_iff.1 (hall u hu)
    exact M.tapeR_iff.2 ⟨a1, a2, a3, ⟨Int.natCast_nonneg _, Int.le_refl _⟩, a5⟩
  rw [e]
  apply List.ext_getElem?
  intro i
  by_cases hi : i < ts.length
  · obtain ⟨k, hk⟩ : ∃ k, (M.crashT (ts.map M.tsync) [])[i]? = some (M.tcrash (M.tsync ts[i]) k) := M.crash_get hs (Nat.zero_le _) (by rw [List.getElem?_map, List.getElem?_eq_getElem hi]; rfl)
    rw [hk, List.getElem?_map, List.getElem?_eq_getElem hi]
    show some _ = some _
    congr 1
    unfold M.tcrash M.leftN M.tsync
    simp only [Int.toNat_natCast]
    rw [Nat.min_eq_left (by omega), List.take_length]
  · rw [List.getElem?_eq_none (by rw [M.crash_len hs (Nat.zero_le _), List.length_map]; omega), List.getElem?_eq_none (by rw [List.length_map]; omega)]
theorem M.readB_gone {us : List M.TapeD} : ∀ {ps : List M.PartD} {p : M.PartD}, p ∈ ps → M.partB us p = none → M.readB us ps = none
  | q :: ps, p, hp, h => by
    unfold M.readB
    rcases List.mem_cons.1 hp with rfl | h2
    · rw [h]
    · cases hq : M.partB us q with
      | none => rfl
      | some bs =>
        simp only
        rw [M.readB_gone h2 h]
        rfl
theorem M.readB_each {us : List M.TapeD} : ∀ {ps : List M.PartD} {L : List UInt8}, M.readB us ps = some L → ∀ p ∈ ps, ∃ bs, M.partB us p = some bs
  | q :: ps, L, h, p, hp => by
    unfold M.readB at h
    cases hq : M.partB us q with
    | none => rw [hq] at h; cases h
    | some bs =>
      rw [hq] at h
      simp only at h
      cases hr : M.readB us ps with
      | none => rw [hr] at h; cases h
      | some K =>
        rcases List.mem_cons.1 hp with rfl | h2
        · exact ⟨bs, hq⟩
        · exact M.readB_each hr p h2
/-- Behind a tape that was cleared a part of it is not there. -/
theorem M.clear_gone {ts : List M.TapeD} {V : Int} {ps : List M.PartD} {m : Int} (hc : (M.clearO ts V).2 = 0) (hy : (M.tread ts ps m).2 = 0) {p : M.PartD} (hp : p ∈ ps) (hv : p.q = V) : (M.tread (M.clearO ts V).1 ps m).2 = 6 := by
  by_cases h4 : 400 < ts.length
  · rw [M.clear_long h4] at hc; cases hc
  by_cases hk : M.tapesR ts = true ∧ 0 ≤ V ∧ V < (ts.length : Int)
  · obtain ⟨hr, h0, h1⟩ := hk
    obtain ⟨k, rfl⟩ := Int.eq_ofNat_of_zero_le h0
    have hkl : k < ts.length := by omega
    have ht := List.getElem?_eq_getElem hkl
    by_cases hl : (ts[k]).lab = 1000000
    · rw [M.clear_last h4 hr ht hl] at hc; cases hc
    · rw [M.clear_yes h4 hr ht hl]
      simp only
      obtain ⟨⟨n1, n8⟩, hall⟩ := M.tapesR_iff.1 hr
      obtain ⟨⟨r1, r2⟩, ⟨r3, r4⟩, -⟩ := M.tapeR_iff.1 (hall _ (List.getElem_mem hkl))
      have hlen : (ts.take k ++ (⟨(ts[k]).lab + 1, [], 0, (ts[k]).room⟩ : M.TapeD) :: ts.drop (k + 1)).length = ts.length := by
        rw [List.length_append, List.length_cons, List.length_take, List.length_drop]; omega
      have hR : M.tapesR (ts.take k ++ (⟨(ts[k]).lab + 1, [], 0, (ts[k]).room⟩ : M.TapeD) :: ts.drop (k + 1)) = true := by
        refine M.tapesR_iff.2 ⟨by rw [hlen]; exact ⟨n1, n8⟩, fun t h => ?_⟩
        rcases List.mem_append.1 h with h2 | h2
        · exact hall t (List.mem_of_mem_take h2)
        · rcases List.mem_cons.1 h2 with rfl | h3
          · exact M.tapeR_iff.2 ⟨⟨by show 0 ≤ _ + 1; omega, by show _ + 1 ≤ _; omega⟩, ⟨r3, r4⟩, by simpa using r3, ⟨Int.le_refl _, by simp⟩, fun s hs => by simp at hs⟩
          · exact hall t (List.mem_of_mem_drop h3)
      unfold M.tread at hy
      by_cases c1 : 400 < ts.length ∨ 400 < ps.length
      · rw [if_pos c1] at hy; cases hy
      rw [if_neg c1] at hy
      by_cases c2 : M.tapesR ts = false ∨ m < 0
      · rw [if_pos c2] at hy; cases hy
      rw [if_neg c2] at hy
      cases hb : M.readB ts ps with
      | none => rw [hb] at hy; cases hy
      | some L =>
        obtain ⟨bs, hbs⟩ := M.readB_each hb p hp
        have hgone : M.partB (ts.take k ++ (⟨(ts[k]).lab + 1, [], 0, (ts[k]).room⟩ : M.TapeD) :: ts.drop (k + 1)) p = none := by
          rw [M.partB_at hv ht] at hbs
          have hl2 : (ts[k]).lab = p.l := by
            by_cases h : (ts[k]).lab = p.l
            · exact h
            · rw [if_neg (fun hh => h hh.1)] at hbs; cases hbs
          rw [M.partB_at hv (t := ⟨(ts[k]).lab + 1, [], 0, (ts[k]).room⟩) (by rw [List.getElem?_append_right (by rw [List.length_take]; omega), List.length_take]; simp [Nat.min_eq_left (Nat.le_of_lt hkl)])]
          rw [if_neg (fun hh => by have := hh.1; simp only at this; omega)]
        unfold M.tread
        rw [if_neg (by rw [hlen]; exact c1), if_neg (by rw [hR]; intro e; rcases e with e | e; cases e; exact c2 (.inr e)), M.readB_gone hp hgone]
  · rw [M.clear_no h4 hk] at hc; cases hc
theorem M.right_of6 {us : List M.TapeD} {ps : List M.PartD} {m : Int} (h : (M.tread us ps m).2 = 6) : M.tapesR us = true := by
  cases hr : M.tapesR us
  · unfold M.tread at h
    rw [hr] at h
    split at h
    · cases h
    · rw [if_pos (.inl rfl)] at h
      cases h
  · rfl
end Go.Proofs.Ytappficbjjkmiaa
