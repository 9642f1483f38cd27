/-
  What TapesCrash of the program does.
-/
import Derived.Test.YtappficbjjkmiaaPart17
import Derived.Test.YtappficbjjkmiaaPart8
namespace Go.Proofs.Ytappficbjjkmiaa
open Go.RowKit Go.Deep

/-- A slice of numbers. -/
def M.Ints (w : World) (a : Option Addr) (len : Nat) (zs : List Int) : Prop := len = zs.length ∧ (0 < len → ∃ b off, a = some ⟨b, off, none⟩ ∧ ∀ i (h : i < zs.length), w.cell? ⟨b, off + i, none⟩ = some (.int .i64 zs[i]))
theorem M.Ints.below {w w' : World} {a : Option Addr} {len : Nat} {zs : List Int} (h : M.Ints w a len zs) (hb : Below w.heap.size w w') : M.Ints w' a len zs := ⟨h.1, fun hl => by
  obtain ⟨b, off, e, hf⟩ := h.2 hl
  exact ⟨b, off, e, fun i hi => (hb.cell (p := ⟨b, off + i, none⟩) (World.block_lt_of_cell? w _ (hf i hi))).trans (hf i hi)⟩⟩
theorem M.PAt.put4 {w : World} {g k : Nat} {qs : List (M.TapeD × Value)} {p : M.TapeD × Value} (hp : M.PAt w g qs) (hk : qs[k]? = some p) (t : M.TapeD) (u : Value) :
    M.PAt ((((w.setCell ⟨g, k * 4, none⟩ (.int .i64 t.lab)).setCell ⟨g, k * 4 + 1, none⟩ u).setCell ⟨g, k * 4 + 2, none⟩ (.int .i64 t.syn)).setCell ⟨g, k * 4 + 3, none⟩ (.int .i64 t.room)) g (qs.take k ++ (t, u) :: qs.drop (k + 1)) := by
  have hkl := (List.getElem?_eq_some_iff.1 hk).1
  have hsp := M.split_at hk
  have hA : (qs.take k).length = k := by rw [List.length_take]; omega
  obtain ⟨c0, c1, c2, c3⟩ := hp k _ hk
  intro j r hr'
  by_cases e : j = k
  · subst e
    rw [List.getElem?_append_right (by omega), hA, Nat.sub_self] at hr'
    obtain rfl := Option.some.inj hr'
    refine ⟨?_, ?_, ?_, ?_⟩
    · rw [M.co4 (by omega), M.co4 (by omega), M.co4 (by omega), World.cell?_setCell_same _ _ _ c0]
    · rw [M.co4 (by omega), M.co4 (by omega), World.cell?_setCell_same _ _ _ ((M.co4 (by omega)).trans c1)]
    · rw [M.co4 (by omega), World.cell?_setCell_same _ _ _ ((M.co4 (by omega)).trans ((M.co4 (by omega)).trans c2))]
    · rw [World.cell?_setCell_same _ _ _ ((M.co4 (by omega)).trans ((M.co4 (by omega)).trans ((M.co4 (by omega)).trans c3)))]
  · have hq : qs[j]? = some r := by
      rw [hsp]
      by_cases hj : j < (qs.take k).length
      · rw [List.getElem?_append_left hj] at hr' ⊢; exact hr'
      · rw [List.getElem?_append_right (by omega)] at hr' ⊢
        obtain ⟨t, ht⟩ : ∃ t, j - (qs.take k).length = t + 1 := ⟨j - (qs.take k).length - 1, by omega⟩
        rw [ht] at hr' ⊢
        exact hr'
    obtain ⟨e0, e1, e2, e3⟩ := hp j r hq
    refine ⟨?_, ?_, ?_, ?_⟩
    · rw [M.co4 (by omega), M.co4 (by omega), M.co4 (by omega), M.co4 (by omega)]; exact e0
    · rw [M.co4 (by omega), M.co4 (by omega), M.co4 (by omega), M.co4 (by omega)]; exact e1
    · rw [M.co4 (by omega), M.co4 (by omega), M.co4 (by omega), M.co4 (by omega)]; exact e2
    · rw [M.co4 (by omega), M.co4 (by omega), M.co4 (by omega), M.co4 (by omega)]; exact e3
/-- Each tape's blocks lie in old memory. -/
def M.lies (w : World) (qs : List (M.TapeD × Value)) : Prop := ∀ p ∈ qs, ∃ a n c, p.2 = .slice a n c ∧ M.Strs w a n c p.1.ss ∧ (a = none → c = 0)
theorem M.lies.put {w : World} {k : Nat} {qs : List (M.TapeD × Value)} {t : M.TapeD} {a : Option Addr} {n c : Nat} (h : M.lies w qs) (hs : M.Strs w a n c t.ss) (hz : a = none → c = 0) : M.lies w (qs.take k ++ (t, .slice a n c) :: qs.drop (k + 1)) := fun p hp => by
  rcases List.mem_append.1 hp with h1 | h1
  · exact h p (List.mem_of_mem_take h1)
  · rcases List.mem_cons.1 h1 with rfl | h2
    · exact ⟨a, n, c, rfl, hs, hz⟩
    · exact h p (List.mem_of_mem_drop h2)
theorem M.lefts_put {ts : List M.TapeD} {ks : List Int} {k : Nat} {t : M.TapeD} {u : Value} {qs : List (M.TapeD × Value)} (h : qs.map Prod.fst = M.lefts ts ks k ++ ts.drop k) (ht : ts[k]? = some t) : (qs.take k ++ (M.tleft t (ks[k]?.getD 0), u) :: qs.drop (k + 1)).map Prod.fst = M.lefts ts ks (k + 1) ++ ts.drop (k + 1) := by
  rw [List.map_append, List.map_cons, List.map_take, List.map_drop, h, M.lefts_succ ht, List.append_assoc]
  have hl := M.lefts_len ts ks k
  rw [List.take_append_of_le_length (by omega), List.take_of_length_le (by omega), List.drop_append, List.drop_of_length_le (by omega), hl, List.nil_append, show k + 1 - k = 1 by omega, List.drop_drop]
  rfl
theorem M.lefts_at {ts : List M.TapeD} {ks : List Int} {k : Nat} {t : M.TapeD} {qs : List (M.TapeD × Value)} (h : qs.map Prod.fst = M.lefts ts ks k ++ ts.drop k) (ht : ts[k]? = some t) : ∃ u, qs[k]? = some (t, u) := by
  have h1 : (qs.map Prod.fst)[k]? = some t := by
    rw [h, List.getElem?_append_right (by rw [M.lefts_len]; exact Nat.le_refl _), M.lefts_len, Nat.sub_self, List.getElem?_drop]
    exact ht
  rw [List.getElem?_map] at h1
  cases hq : qs[k]? with
  | none => rw [hq] at h1; cases h1
  | some p => rw [hq] at h1; exact ⟨p.2, by rw [← Option.some.inj h1]⟩

set_option maxRecDepth 100000 in
set_option maxHeartbeats 3200000 in
theorem iCrash_any (w : World) (a : Option Addr) (n c : Nat) (ts : List M.TapeD) (a' : Option Addr) (m c' : Nat) (ks : List Int) (h : M.Tps w a n c ts) (hok : ∀ t ∈ ts, M.tok t) (hsm : ∀ t ∈ ts, ∀ s ∈ t.ss, s.size ≤ 100000000) (hl : n + M.tln ts ≤ 1048576) (hk : M.Ints w a' m ks) (hm : m ≤ 1048576) :
    Calls Try.prog 16 #[.slice a n c, .slice a' m c'] w fun e w' => ∃ (v : Value) (qs : List (M.TapeD × Value)), e = .returned v ∧ qs.map Prod.fst = M.crashT ts ks ∧ M.OwnT w' w.heap.size w'.heap.size v qs ∧ Below w.heap.size w w' := by
  have HF := M.hl h
  have HSM := M.hl hsm
  have HK := M.hl hk
  have HN : Hid (n = ts.length) := h.1
  have HMM : Hid (m = ks.length) := hk.1
  have CR := M.hl (iTapesR_any w a n c ts h hok)
  have hnl : n ≤ 1048576 := by omega
  have HL := M.hl hl
  clear h hok hsm hl hk
  by_cases h4 : 400 < n
  · have HE : Hid (M.crashT ts ks = []) := by show _ = _; unfold M.crashT; rw [if_pos (.inl (by have := HN.out; omega))]
    have d4 : decide (400 < (n : Int)) = true := decide_eq_true (by omega)
    go_enter Try.func16, Try.ntmps16
    go_wp2
    go_ret
    exact ⟨_, [], rfl, HE.out.symm, M.OwnT.nil _ _ _, Below.refl _ _⟩
  have h4' : decide (400 < (n : Int)) = false := decide_eq_false (by omega)
  by_cases h5 : 400 < m
  · have HE : Hid (M.crashT ts ks = []) := by show _ = _; unfold M.crashT; rw [if_pos (.inr (by have := HMM.out; omega))]
    have d5 : decide (400 < (m : Int)) = true := decide_eq_true (by omega)
    go_enter Try.func16, Try.ntmps16
    go_wp2
    go_ret
    exact ⟨_, [], rfl, HE.out.symm, M.OwnT.nil _ _ _, Below.refl _ _⟩
  have h5' : decide (400 < (m : Int)) = false := decide_eq_false (by omega)
  have HNO : Hid (¬ (400 < ts.length ∨ 400 < ks.length)) := by show ¬ _; have := HN.out; have := HMM.out; omega
  cases hr : M.tapesR ts
  · have HE : Hid (M.crashT ts ks = ts) := by show _ = _; unfold M.crashT; rw [if_neg HNO.out, hr]; rfl
    rw [hr] at CR
    clear hr
    go_enter Try.func16, Try.ntmps16
    go_wp2_with fail
    refine CR.out.mono ?_
    rintro e w1 ⟨rfl, hb⟩
    have B1 := M.hl hb
    clear hb
    go_wp2_with fail
    refine (iEachC_any w1 a n c ts (HF.out.below B1.out) HSM.out HL.out).mono ?_
    rintro e w2 ⟨v, qs, rfl, hq, hO, hb⟩
    have HQ := M.hl hq
    have HO := M.hl (hO.widen B1.out.size (Nat.le_refl _))
    have B2 := M.hl (M.sl B1.out hb)
    clear hq hO hb
    go_wp2
    go_ret
    exact ⟨v, qs, rfl, HQ.out.trans HE.out.symm, HO.out, B2.out⟩
  · have HE : Hid (M.crashT ts ks = (M.lefts ts ks ts.length).map M.tsync) := by show _ = _; unfold M.crashT; rw [if_neg HNO.out, hr]; rfl
    have hrr := M.tapesR_iff.1 hr
    have hn1 : 1 ≤ n := by have := HN.out; omega
    have HT : Hid (∀ t ∈ ts, M.tapeR t = true) := hrr.2
    rw [hr] at CR
    obtain ⟨ad, rfl⟩ : ∃ ad, a = some ad := by
      obtain ⟨-, -, -, h4⟩ := HF.out
      obtain ⟨b, off, e, -⟩ := h4 (by omega)
      exact ⟨_, e⟩
    clear hr hrr
    go_enter Try.func16, Try.ntmps16
    go_wp2_with fail
    refine CR.out.mono ?_
    rintro e w1 ⟨rfl, hb⟩
    have B1 := M.hl hb
    clear hb
    go_wp2_with fail
    refine (iCloneTp_any w1 ad n c ts (HF.out.below B1.out) hnl).mono ?_
    rintro e w2 ⟨g, cap, qs, rfl, hnc, hcm, hg, hq, hR, hP, hS, hb⟩
    have HQ := M.hl hq
    have HR2 := M.hl hR
    have HP2 := M.hl hP
    have HS2 : Hid (M.lies w1 qs) := hS
    have HG := M.hl hg
    have HCM := M.hl hcm
    have B12 := M.hl hb
    clear hq hR hP hS hb hg hcm
    go_wp2
    go_loopw [26] (fun i wr => ∃ (k : Nat) (rs : List (M.TapeD × Value)), i = .int .i64 k ∧ k ≤ n ∧ Hid (rs.map Prod.fst = M.lefts ts ks k ++ ts.drop k) ∧ Hid (M.Row wr g 36 (cap * 4)) ∧ Hid (M.PAt wr g rs) ∧ Hid (M.lies w1 rs) ∧ Hid (Below w1.heap.size w1 wr)) (fun i _ => n - (intOf i).toNat)
    case atStart => exact ⟨0, qs, rfl, Nat.zero_le _, HQ, HR2, HP2, HS2, B12⟩
    case round =>
      obtain ⟨k, rs, rfl, hk, HM, HRr, HPr, HSr, HBr⟩ := hrel
      by_cases hlt : k < n
      · obtain ⟨t, hfk⟩ : ∃ t, ts[k]? = some t := ⟨_, List.getElem?_eq_getElem (by have := HN.out; omega)⟩
        have hrt := M.tapeR_iff.1 (HT.out t (List.mem_of_getElem? hfk))
        obtain ⟨u, hrk⟩ := M.lefts_at HM.out hfk
        obtain ⟨ua, un, uc, hu, hus, huz⟩ := HSr.out _ (List.mem_of_getElem? hrk)
        simp only at hu
        subst hu
        obtain ⟨c0, c1, c2, c3⟩ := HPr.out k _ hrk
        obtain ⟨x, ss, y, z⟩ := t
        simp only at c0 c1 c2 c3 hus hrt
        obtain ⟨-, -, -, ⟨hy0, hy1⟩, -⟩ := hrt
        have hun := hus.1
        have hunl : un ≤ 1048576 := by
          have h1 := M.tln_take hfk
          have h2 : M.tln ts = M.tln (ts.take (k + 1)) + M.tln (ts.drop (k + 1)) := by rw [← M.tln_app, List.take_append_drop]
          have h3 := HL.out
          simp only at h1
          omega
        have hy2 : y ≤ (un : Int) := by rw [hun]; exact hy1
        obtain ⟨K, hK⟩ : ∃ K, K = ks[k]?.getD 0 := ⟨_, rfl⟩
        have BX : Hid (∀ o, Below w1.heap.size w1 (wr.alloc o)) := fun o => HBr.out.alloc HBr.out.size _
        have CL : Hid (∀ o, Calls Try.prog 59 #[.agg #[.int .i64 x, .slice ua un uc, .int .i64 y, .int .i64 z], .int .i64 K] (wr.alloc o) fun e w' => e = .returned (.agg #[.int .i64 x, .slice ua (M.leftN ⟨x, ss, y, z⟩ K) uc, .int .i64 y, .int .i64 z]) ∧ Below (wr.alloc o).heap.size (wr.alloc o) w') := fun o => iLeftOf_any _ ua un uc ss x y z K (hus.below (BX.out o)) huz hunl hy0 hy2
        have hlm : M.leftN ⟨x, ss, y, z⟩ K ≤ un := by rw [hun]; exact Nat.min_le_left _ _
        have HSN : Hid (M.Strs w1 ua (M.leftN ⟨x, ss, y, z⟩ K) uc (M.tleft ⟨x, ss, y, z⟩ K).ss) := hus.pre _ hlm
        have HFK := M.hl hfk
        have HRK := M.hl hrk
        have HKE := M.hl hK
        have HUZ := M.hl huz
        obtain ⟨N, hNN⟩ : ∃ N, N = M.leftN ⟨x, ss, y, z⟩ K := ⟨_, rfl⟩
        rw [← hNN] at CL HSN
        have hN1 : N ≤ 1048576 := by omega
        have hzr : g < wr.heap.size := HRr.out.lt
        have FIN : Hid (∀ w5, Below wr.heap.size wr w5 → ∃ rs', rs'.map Prod.fst = M.lefts ts ks (k + 1) ++ ts.drop (k + 1) ∧ M.Row ((((w5.setCell ⟨g, k * 4, none⟩ (.int .i64 x)).setCell ⟨g, k * 4 + 1, none⟩ (.slice ua N uc)).setCell ⟨g, k * 4 + 2, none⟩ (.int .i64 y)).setCell ⟨g, k * 4 + 3, none⟩ (.int .i64 z)) g 36 (cap * 4) ∧ M.PAt ((((w5.setCell ⟨g, k * 4, none⟩ (.int .i64 x)).setCell ⟨g, k * 4 + 1, none⟩ (.slice ua N uc)).setCell ⟨g, k * 4 + 2, none⟩ (.int .i64 y)).setCell ⟨g, k * 4 + 3, none⟩ (.int .i64 z)) g rs' ∧ M.lies w1 rs' ∧ Below w1.heap.size w1 ((((w5.setCell ⟨g, k * 4, none⟩ (.int .i64 x)).setCell ⟨g, k * 4 + 1, none⟩ (.slice ua N uc)).setCell ⟨g, k * 4 + 2, none⟩ (.int .i64 y)).setCell ⟨g, k * 4 + 3, none⟩ (.int .i64 z))) := fun w5 hb => by
          have hR5 := HRr.out.of_block (hb.block g HRr.out.lt)
          have hP5 := HPr.out.of_block (hb.block g HRr.out.lt)
          refine ⟨rs.take k ++ (M.tleft ⟨x, ss, y, z⟩ K, .slice ua N uc) :: rs.drop (k + 1), ?_, (((hR5.setCell _ _).setCell _ _).setCell _ _).setCell _ _, ?_, HSr.out.put HSN.out HUZ.out, ?_⟩
          · rw [HKE.out]; exact M.lefts_put HM.out HFK.out
          · exact hP5.put4 HRK.out (M.tleft ⟨x, ss, y, z⟩ K) (.slice ua N uc)
          · exact ((((HBr.out.trans (hb.mono HBr.out.size)).setCell HG.out _).setCell HG.out _).setCell HG.out _).setCell HG.out _
        have BW : Hid (∀ o, Below wr.heap.size wr (wr.alloc o)) := fun o => (Below.refl _ _).alloc (Nat.le_refl _) _
        clear hfk hrk hK huz hus hun hNN hlm hy0 hy1 hy2 hunl
        by_cases hkm : k < m
        · obtain ⟨kb, koff, hka, hkc⟩ := HK.out.2 (by omega)
          subst hka
          have hkl : k < ks.length := by have := HMM.out; omega
          have hKv : K = ks[k] := by rw [HKE.out, List.getElem?_eq_getElem hkl]; rfl
          have q0 := hkc k hkl
          rw [← hKv] at q0
          have q1 : ∀ o, (wr.alloc o).cell? ⟨kb, koff + k, none⟩ = some (.int .i64 K) := fun o => ((M.sl B1.out (BX.out o)).cell (p := ⟨kb, koff + k, none⟩) (World.block_lt_of_cell? w _ q0)).trans q0
          clear hkc hKv hkl q0
          go_wp2_with fail
          refine (CL.out _).mono ?_
          rintro e w5 ⟨rfl, hb⟩
          have hb2 : Below wr.heap.size wr w5 := (BW.out _).trans (hb.mono (by simp))
          have hR5 := HRr.out.of_block (hb2.block g HRr.out.lt)
          obtain ⟨v0, g0⟩ := hR5.cell (i := k * 4) (by omega)
          obtain ⟨v1, g1⟩ := hR5.cell (i := k * 4 + 1) (by omega)
          obtain ⟨v2, g2⟩ := hR5.cell (i := k * 4 + 2) (by omega)
          obtain ⟨v3, g3⟩ := hR5.cell (i := k * 4 + 3) (by omega)
          have fr := hR5.free
          obtain ⟨rs', h1, h2, h3, h4, h5⟩ := FIN.out w5 hb2
          have H1 := M.hl h1
          have H2 := M.hl h2
          have H3 := M.hl h3
          have H4 := M.hl h4
          have H5 := M.hl h5
          clear h1 h2 h3 h4 h5 hb hb2 hR5 c0 c1 c2 c3 q1
          go_wp2
          go_roundw
          case rel => exact ⟨k + 1, rs', by go_num, by omega, H1, H2, H3, H4, H5⟩
          case measure => simp [intOf]; omega
        · have hK0 : K = 0 := by rw [HKE.out, List.getElem?_eq_none (by have := HMM.out; omega)]; rfl
          rw [hK0] at CL
          clear hK0
          go_wp2_with fail
          refine (CL.out _).mono ?_
          rintro e w5 ⟨rfl, hb⟩
          have hb2 : Below wr.heap.size wr w5 := (BW.out _).trans (hb.mono (by simp))
          have hR5 := HRr.out.of_block (hb2.block g HRr.out.lt)
          obtain ⟨v0, g0⟩ := hR5.cell (i := k * 4) (by omega)
          obtain ⟨v1, g1⟩ := hR5.cell (i := k * 4 + 1) (by omega)
          obtain ⟨v2, g2⟩ := hR5.cell (i := k * 4 + 2) (by omega)
          obtain ⟨v3, g3⟩ := hR5.cell (i := k * 4 + 3) (by omega)
          have fr := hR5.free
          obtain ⟨rs', h1, h2, h3, h4, h5⟩ := FIN.out w5 hb2
          have H1 := M.hl h1
          have H2 := M.hl h2
          have H3 := M.hl h3
          have H4 := M.hl h4
          have H5 := M.hl h5
          clear h1 h2 h3 h4 h5 hb hb2 hR5 c0 c1 c2 c3
          go_wp2
          go_roundw
          case rel => exact ⟨k + 1, rs', by go_num, by omega, H1, H2, H3, H4, H5⟩
          case measure => simp [intOf]; omega
      · obtain rfl : k = n := by omega
        have hM := HM.out
        rw [List.drop_of_length_le (by have := HN.out; omega), List.append_nil] at hM
        have HTS : Hid (M.Tps wr (some ⟨g, 0, none⟩) k cap (M.lefts ts ks k)) := by
          refine ⟨(M.lefts_len ts ks k).symm, hnc, HCM.out, fun _ => ⟨g, 0, rfl, fun i hi => ?_⟩⟩
          have hil : i < rs.length := by rw [← List.length_map (f := Prod.fst), hM]; exact hi
          have hri := List.getElem?_eq_getElem hil
          obtain ⟨c0, c1, c2, c3⟩ := HPr.out i _ hri
          obtain ⟨ua, un, uc, hu, hus, huz⟩ := HSr.out _ (List.mem_of_getElem? hri)
          have e1 : (M.lefts ts ks k)[i] = (rs[i]).1 := by
            have : (rs.map Prod.fst)[i]? = some (M.lefts ts ks k)[i] := by rw [hM]; exact List.getElem?_eq_getElem hi
            rw [List.getElem?_map, hri] at this
            exact (Option.some.inj this).symm
          rw [e1, Nat.zero_add]
          exact ⟨c0, ⟨ua, un, uc, by rw [← hu]; exact c1, hus.below HBr.out, huz⟩, c2, c3⟩
        have HSS : Hid (∀ t ∈ M.lefts ts ks k, ∀ s ∈ t.ss, s.size ≤ 100000000) := fun t ht s hs => by
          obtain ⟨i, hi, rfl⟩ := List.mem_map.1 ht
          have hik := List.mem_range.1 hi
          have hti := List.getElem?_eq_getElem (l := ts) (i := i) (by have := HN.out; omega)
          rw [hti] at hs
          exact HSM.out _ (List.mem_of_getElem? hti) s (List.mem_of_mem_take hs)
        have HLT : Hid (k + M.tln (M.lefts ts ks k) ≤ 1048576) := by
          show _ ≤ _
          have h1 := M.lefts_tln ts ks k (by have := HN.out; omega)
          rw [List.take_of_length_le (by have := HN.out; omega)] at h1
          have := HL.out
          omega
        have HEE : Hid ((M.lefts ts ks k).map M.tsync = M.crashT ts ks) := by show _ = _; rw [HE.out, ← HN.out]
        clear hM
        go_wp2_with fail
        refine (iEachS_any wr (some ⟨g, 0, none⟩) k cap _ HTS.out HSS.out HLT.out).mono ?_
        rintro e w6 ⟨v, qs6, rfl, hq, hO, hb⟩
        have HQ6 := M.hl (hq.trans HEE.out)
        have Bw := M.sl B1.out HBr.out
        have HO6 := M.hl (hO.widen Bw.size (Nat.le_refl _))
        have B6 := M.hl (M.sl Bw hb)
        clear hq hO hb Bw
        go_wp2
        go_ret
        exact ⟨v, qs6, rfl, HQ6.out, HO6.out, B6.out⟩
end Go.Proofs.Ytappficbjjkmiaa
