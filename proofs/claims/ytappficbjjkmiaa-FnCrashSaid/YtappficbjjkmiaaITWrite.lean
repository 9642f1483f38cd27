/-
  What TapesWrite of the program does.
-/
import Derived.Test.YtappficbjjkmiaaPart13
import Derived.Test.YtappficbjjkmiaaIUse
import Derived.Test.YtappficbjjkmiaaPart8
import Derived.Test.YtappficbjjkmiaaITapesR
import Derived.Test.YtappficbjjkmiaaPart12
import Derived.Test.YtappficbjjkmiaaStepOwnAt
import Derived.Test.YtappficbjjkmiaaPart10
import Derived.Deep.RegionLaw
namespace Go.Proofs.Ytappficbjjkmiaa
open Go.RowKit

theorem M.nvB {w W : World} {a : Option Addr} {len : Nat} {zs : List Int} (h : M.NV w a len zs) (hb : Below w.heap.size w W) : M.NV W a len zs := by
  obtain ⟨h1, h2⟩ := h
  refine ⟨h1, fun hl => ?_⟩
  obtain ⟨b, off, e, hf⟩ := h2 hl
  exact ⟨b, off, e, fun i hi => (World.cell?_of_block (a := ⟨b, off + i, none⟩) (hb.block b (World.block_lt_of_cell? w _ (hf i hi)))).trans (hf i hi)⟩
set_option maxRecDepth 100000 in
set_option maxHeartbeats 1600000 in
theorem iTWrite_any (w : World) (a : Option Addr) (n c : Nat) (ts : List M.TapeD) (a1 : Option Addr) (m c1 : Nat) (zs : List Int) (s : ByteArray) (ok : Bool) (h : M.Tps w a n c ts) (hok : ∀ t ∈ ts, M.tok t) (hsm : ∀ t ∈ ts, ∀ s ∈ t.ss, s.size ≤ 100000000) (hl : n + M.tln ts ≤ 1048576)
    (h' : M.NV w a1 m zs) (hc1 : m ≤ c1) (hs : s.size ≤ 1048576) (hu : ok = true ↔ M.useP n zs) :
    Calls Try.prog 10 #[.slice a n c, .slice a1 m c1, .string s] w fun e w' => M.TwVal ok ts zs s w e w' := by
  have HF := M.hl h
  have HSM := M.hl hsm
  have HN : Hid (n = ts.length) := h.1
  have HM : Hid (m = zs.length) := h'.1
  have HL := M.hl hl
  have HU := M.hl hu
  have HZ := M.hl h'
  have BO : Hid (∀ o, Below w.heap.size w (w.alloc o)) := fun o => (Below.refl _ _).alloc (Nat.le_refl _) _
  have CR : Hid (∀ o, Calls Try.prog 14 #[.slice a n c] (w.alloc o) fun e w' => e = .returned (.bool (M.tapesR ts)) ∧ Below (w.alloc o).heap.size (w.alloc o) w') := fun o => iTapesR_any _ a n c ts (h.below (BO.out o)) hok
  have NO : Hid (∀ (W : World) (k : Int), M.tw ok ts zs s = ([], [], k) → Below w.heap.size w W → M.TwVal ok ts zs s w (.returned (.agg #[.slice none 0 0, .slice none 0 0, .string ⟨#[]⟩, .int .i64 k])) W) := fun W k hk hb => M.TwVal.no hk hb
  clear h hok hsm hl hu h'
  by_cases h4 : 400 < n ∨ 400 < m ∨ 20000 < s.size
  · have HE := M.hl (M.tw_long (ok := ok) (ts := ts) (zs := zs) (s := s) (by have := HN.out; have := HM.out; omega))
    have fin : ∀ W, Below w.heap.size w W → _ := fun W hb => NO.out W 2 HE.out hb
    have FIN := M.hl fin
    clear fin
    rcases Nat.lt_or_ge 400 n with e | e
    · go_enter Try.func10, Try.ntmps10
      go_wp2
      refine bodyPost_ret (v := .agg #[.slice none 0 0, .slice none 0 0, .string ⟨#[]⟩, .int .i64 2]) (by simp [results, Try.results10, go_sem]) rfl (FIN.out _ (BO.out _))
    rcases Nat.lt_or_ge 400 m with e2 | e2
    · go_enter Try.func10, Try.ntmps10
      go_wp2
      refine bodyPost_ret (v := .agg #[.slice none 0 0, .slice none 0 0, .string ⟨#[]⟩, .int .i64 2]) (by simp [results, Try.results10, go_sem]) rfl (FIN.out _ (BO.out _))
    · have e3 : 20000 < s.size := by omega
      go_enter Try.func10, Try.ntmps10
      go_wp2
      refine bodyPost_ret (v := .agg #[.slice none 0 0, .slice none 0 0, .string ⟨#[]⟩, .int .i64 2]) (by simp [results, Try.results10, go_sem]) rfl (FIN.out _ (BO.out _))
  have HNO : Hid (¬ (400 < ts.length ∨ 400 < zs.length ∨ 20000 < s.size)) := by show ¬ _; have := HN.out; have := HM.out; omega
  have e1 : n ≤ 400 := by omega
  have e2 : m ≤ 400 := by omega
  have e3 : s.size ≤ 20000 := by omega
  clear h4
  cases hr : M.tapesR ts
  · have HE := M.hl (M.tw_no (ok := ok) HNO.out (by rw [hr]; rfl))
    rw [hr] at CR
    clear hr
    go_enter Try.func10, Try.ntmps10
    go_wp2_with fail
    refine (CR.out _).mono ?_
    rintro e w1 ⟨rfl, hb⟩
    have u0 := (hb.block w.heap.size (by simp)).trans (heap_alloc_new w (.cells #[.slice none 0 0, .slice none 0 0, .string ⟨#[]⟩, .int .i64 0] 29))
    have r0 := M.bk_cell u0 0 (.slice none 0 0) rfl
    have r1 := M.bk_cell u0 1 (.slice none 0 0) rfl
    have r2 := M.bk_cell u0 2 (.string ⟨#[]⟩) rfl
    have r3 := M.bk_cell u0 3 (.int .i64 0) rfl
    have fr := M.bk_free u0
    have B1 := M.hl (M.bxd_below hb)
    clear hb u0
    go_wp2
    refine bodyPost_ret (v := .agg #[.slice none 0 0, .slice none 0 0, .string ⟨#[]⟩, .int .i64 1]) (by simp [results, Try.results10, go_sem, r0, r1, r2, r3]) rfl (NO.out _ 1 HE.out ?_)
    exact (((B1.out.setCell (by simp) _).setCell (by simp) _).setCell (by simp) _).setCell (by simp) _
  have HT := M.hl (M.tapesR_iff.1 hr)
  rw [hr] at CR
  cases hk : ok
  · have HE := M.hl (M.tw_no (ok := ok) HNO.out (by rw [hr, hk]; rfl))
    have HUF : Hid (∀ v : Bool, (v = true ↔ M.useP n zs) → v = false) := fun v hv => by
      cases v
      · rfl
      · have := HU.out.2 (hv.1 rfl); rw [hk] at this; cases this
    subst hk
    clear hr
    go_enter Try.func10, Try.ntmps10
    go_wp2_with fail
    refine (CR.out _).mono ?_
    rintro e w1 ⟨rfl, hb⟩
    have u0 := (hb.block w.heap.size (by simp)).trans (heap_alloc_new w (.cells #[.slice none 0 0, .slice none 0 0, .string ⟨#[]⟩, .int .i64 0] 29))
    have r0 := M.bk_cell u0 0 (.slice none 0 0) rfl
    have r1 := M.bk_cell u0 1 (.slice none 0 0) rfl
    have r2 := M.bk_cell u0 2 (.string ⟨#[]⟩) rfl
    have r3 := M.bk_cell u0 3 (.int .i64 0) rfl
    have fr := M.bk_free u0
    have B1 := M.hl (M.bxd_below hb)
    clear hb u0
    go_wp2_with fail
    refine (iUse_any w1 a n c a1 m c1 zs (by omega) (M.nvB HZ.out B1.out) (by omega) hc1).mono ?_
    rintro e w1' ⟨v, rfl, hv, rfl⟩
    obtain rfl := HUF.out v hv
    clear hv
    go_wp2
    refine bodyPost_ret (v := .agg #[.slice none 0 0, .slice none 0 0, .string ⟨#[]⟩, .int .i64 1]) (by simp [results, Try.results10, go_sem, r0, r1, r2, r3]) rfl (NO.out _ 1 HE.out ?_)
    exact (((B1.out.setCell (by simp) _).setCell (by simp) _).setCell (by simp) _).setCell (by simp) _
  have HUT : Hid (∀ v : Bool, (v = true ↔ M.useP n zs) → v = true) := fun v hv => hv.2 (HU.out.1 hk)
  have HUP : Hid (M.useP n zs) := HU.out.1 hk
  have HOK2 : Hid ((M.tapesR ts && ok) = true) := by show _ = _; rw [hr, hk]; rfl
  subst hk
  clear hr
  go_enter Try.func10, Try.ntmps10
  go_wp2_with fail
  refine (CR.out _).mono ?_
  rintro e w1 ⟨rfl, hb⟩
  have U0 := M.hl ((hb.block w.heap.size (by simp)).trans (heap_alloc_new w (.cells #[.slice none 0 0, .slice none 0 0, .string ⟨#[]⟩, .int .i64 0] 29)))
  have B1 := M.hl (M.bxd_below hb)
  clear hb
  go_wp2_with fail
  refine (iUse_any w1 a n c a1 m c1 zs (by omega) (M.nvB HZ.out B1.out) (by omega) hc1).mono ?_
  rintro e w1' ⟨v, rfl, hv, rfl⟩
  obtain rfl := HUT.out v hv
  clear hv
  go_wp2_with fail
  refine (iEachC_any w1 a n c ts (HF.out.below B1.out) HSM.out HL.out).mono ?_
  rintro e w2 ⟨v, qs, rfl, hq, hO, hb⟩
  have hql : qs.length = n := by rw [HN.out, ← hq, List.length_map]
  obtain ⟨g, cap, rfl⟩ : ∃ g cap, v = .slice (some ⟨g, 0, none⟩) n cap := by
    obtain ⟨⟨-, ⟨-, h0⟩ | ⟨g, cap, cur, e, -⟩⟩, -, -, -⟩ := hO
    · have := HT.out.1; have := HN.out; omega
    · rw [hql] at e; exact ⟨g, cap, e⟩
  have HQ := M.hl hq
  have HO := M.hl (hO.widen B1.out.size (Nat.le_refl _))
  have U0 := M.hl (M.keepO U0.out hb)
  have B2 := M.hl (M.sl B1.out hb)
  clear hq hO hb hql
  go_wp2_with fail
  refine (iTBlocks_any s _ e3).mono ?_
  rintro e w4 ⟨v4, rfl, hO4, hb⟩
  have ab : Below w2.heap.size w2 (w2.alloc (.cells #[.slice (some ⟨g, 0, none⟩) n cap, .slice none 0 0, .string ⟨#[]⟩, .int .i64 0] 29)) := (Below.refl _ _).alloc (Nat.le_refl _) _
  have hb2 : Below w2.heap.size w2 w4 := M.sl ab hb
  have V1 : Hid (w4.heap[w2.heap.size]? = some (.cells #[.slice (some ⟨g, 0, none⟩) n cap, .slice none 0 0, .string ⟨#[]⟩, .int .i64 0] 29 (0, 0))) := M.keepO (heap_alloc_new w2 _) hb
  have V0 := M.hl (M.keepO U0.out hb2)
  have B4 := M.hl (M.sl B2.out hb2)
  have hwb : w.heap.size ≤ w2.heap.size := B2.out.size
  have hOT := HO.out.below hb2
  have hsz4 : w2.heap.size < w4.heap.size := (Array.getElem?_eq_some_iff.1 V1.out).1
  have hlow : ∀ b, v4.ownBlock = some b → w2.heap.size + 1 ≤ b ∧ b < w4.heap.size := fun b hb' => by
    have h1 := World.ownsRow.lt hO4 b hb'
    have h2 := (World.ownsRow.lt hO4 b hb').1
    simp at h2
    exact ⟨h2, h1.2⟩
  have WS : Hid (M.WrW w4 w.heap.size g n cap (.slice none 0 0) v4 v4.ownBlock qs [] (M.tbl s ((s.size + 63) / 64))) := by
    refine ⟨hOT.widen (Nat.le_refl _) (by omega), M.OwnPt.nil _ _, M.aside_nil _ _ _ _, M.Rest.ofOwn hO4, fun b hb' => (hlow b hb').2, fun b hb' => ⟨⟨fun e => ?_, fun p hp e => ?_⟩, fun e => by cases e⟩⟩
    · have := hOT.top b e
      have := (hlow b hb').1
      omega
    · have := (hOT.each p hp).2 b e
      have := (hlow b hb').1
      omega
  have RB : Hid (v4.ownBlock ≠ some w.heap.size ∧ v4.ownBlock ≠ some w2.heap.size) := ⟨fun e => by have := (hlow _ e).1; omega, fun e => by have := (hlow _ e).1; omega⟩
  obtain ⟨a4, c4, rfl⟩ : ∃ a4 c4, v4 = .slice a4 (M.tbl s ((s.size + 63) / 64)).length c4 := M.OwnS.len hO4
  generalize (Value.slice a4 (M.tbl s ((s.size + 63) / 64)).length c4).ownBlock = rb at WS RB
  obtain ⟨B, hB⟩ : ∃ B, B = w2.heap.size := ⟨_, rfl⟩
  obtain ⟨x0, hx0⟩ : ∃ x0 : M.WrS, x0 = ⟨ts, [], M.tbl s ((s.size + 63) / 64)⟩ := ⟨_, rfl⟩
  have X0 := M.hl hx0
  have HB0 : Hid (w.heap.size < B) := by
    have h1 := (Array.getElem?_eq_some_iff.1 U0.out).1
    show _ < _
    omega
  have hbl : (M.tbl s ((s.size + 63) / 64)).length = x0.bs.length := by rw [hx0]
  rw [← hB] at V1 RB
  clear hO4 hb ab hb2 hOT hsz4 hlow hwb hx0 U0 B2 HO
  go_wp2
  rw [← hB]
  clear hB
  go_loopw [8, 45] (fun r i wr => ∃ (k : Nat) (pv : Value) (qs : List (M.TapeD × Value)) (ra : Option Addr) (rn rc : Nat), i = .int .i64 k ∧ r = .slice ra rn rc ∧ k ≤ m ∧ Hid (qs.map Prod.fst = (M.wr x0 (zs.take k)).ts) ∧ Hid (M.WrW wr w.heap.size g n cap pv (.slice ra rn rc) rb qs (M.wr x0 (zs.take k)).ps (M.wr x0 (zs.take k)).bs)
    ∧ Hid (wr.heap[w.heap.size]? = some (.cells #[.slice none 0 0, .slice none 0 0, .string ⟨#[]⟩, .int .i64 0] 29 (0, 0))) ∧ Hid (wr.heap[B]? = some (.cells #[.slice (some ⟨g, 0, none⟩) n cap, pv, .string ⟨#[]⟩, .int .i64 0] 29 (0, 0))) ∧ Hid (Below w.heap.size w wr)) (fun _ i _ => m - (intOf i).toNat)
  case atStart =>
    refine ⟨0, _, qs, _, _, _, rfl, rfl, Nat.zero_le _, ?_, ?_, V0, V1, B4⟩
    · show _ = _; rw [HQ.out, X0.out]; rfl
    · show M.WrW _ _ _ _ _ _ _ _ _ _ _
      rw [X0.out]
      exact WS.out
  case round =>
    obtain ⟨k, pv, qs, ra, rn, rc, rfl, rfl, hk, HQr, HWr, HV0, HV1, HBr⟩ := hrel
    obtain ⟨pa, pn, pc, rfl⟩ : ∃ a n c, pv = .slice a n c := (HWr.out.pt.len).elim fun a ⟨c, e⟩ => ⟨a, _, c, e⟩
    obtain ⟨hrn, hrl⟩ : rn = (M.wr x0 (zs.take k)).bs.length ∧ ∀ b ∈ (M.wr x0 (zs.take k)).bs, b.size = 64 := by
      obtain ⟨a', c', e, -⟩ := HWr.out.rs
      cases e
      exact ⟨rfl, (M.wr_right (zs.take k) (x := x0) (by rw [X0.out]; exact HT.out.2) (by rw [X0.out]; exact M.tbl_size)).2⟩
    have HRL := M.hl hrl
    have HRN := M.hl hrn
    have hps := M.wr_ps (zs.take k) x0
    have htk : (zs.take k).length ≤ k := List.length_take_le _ _
    have hx0 : x0.ps.length = 0 ∧ x0.bs.length ≤ 20000 := by
      rw [X0.out]
      refine ⟨rfl, ?_⟩
      rw [M.tbl_len]
      omega
    have hr313 : rn ≤ 20000 := by omega
    have hpl : (M.wr x0 (zs.take k)).ps.length ≤ 400 := by omega
    clear hps htk hx0
    clear hrl hrn
    by_cases hlt : k < m
    case neg =>
      obtain rfl : k = m := by omega
      have htk : zs.take k = zs := List.take_of_length_le (by have := HM.out; omega)
      rw [htk] at HQr HWr HRN
      have y0 := M.bk_cell HV1.out 0 (.slice (some ⟨g, 0, none⟩) n cap) rfl
      have y1 := M.bk_cell HV1.out 1 (.slice pa pn pc) rfl
      have y2 := M.bk_cell HV1.out 2 (.string ⟨#[]⟩) rfl
      have y3 := M.bk_cell HV1.out 3 (.int .i64 0) rfl
      have r0 := M.bk_cell HV0.out 0 (.slice none 0 0) rfl
      have r1 := M.bk_cell HV0.out 1 (.slice none 0 0) rfl
      have r2 := M.bk_cell HV0.out 2 (.string ⟨#[]⟩) rfl
      have r3 := M.bk_cell HV0.out 3 (.int .i64 0) rfl
      have fr := M.bk_free HV0.out
      clear htk
      by_cases hz : rn = 0
      · have HE := M.hl (M.tw_yes HNO.out HOK2.out (x := M.wr x0 zs) (by rw [X0.out]) (List.length_eq_zero_iff.1 (by rw [← HRN.out]; exact hz)))
        have dz : decide (0 < rn) = false := decide_eq_false (by omega)
        have HS4 := M.hl (HWr.out.setBox4 HV0.out (by decide) (by decide) (by decide) RB.out.1 (.slice (some ⟨g, 0, none⟩) n cap) (.slice pa pn pc) (.string ⟨#[]⟩) (.int .i64 0))
        clear hz
        go_wp2
        refine bodyPost_ret (v := .agg #[.slice (some ⟨g, 0, none⟩) n cap, .slice pa pn pc, .string ⟨#[]⟩, .int .i64 0]) (by simp [results, Try.results10, go_sem, r0, r1, r2, r3]) rfl ?_
        unfold M.TwVal
        rw [HE.out]
        refine ⟨_, _, qs, rfl, HQr.out, HS4.out.tp, HS4.out.pt, ?_⟩
        · exact (((HBr.out.setCell (Nat.le_refl _) _).setCell (Nat.le_refl _) _).setCell (Nat.le_refl _) _).setCell (Nat.le_refl _) _
      · have HE := M.hl (M.tw_full HNO.out HOK2.out (x := M.wr x0 zs) (by rw [X0.out]) (fun e => hz (by rw [HRN.out, e]; rfl)))
        have dz : decide (0 < rn) = true := decide_eq_true (by omega)
        clear hz
        go_wp2
        refine bodyPost_ret (v := .agg #[.slice none 0 0, .slice none 0 0, .string ⟨#[]⟩, .int .i64 9]) (by simp [results, Try.results10, go_sem, r0, r1, r2, r3]) rfl (NO.out _ 9 HE.out ?_)
        exact (((HBr.out.setCell (Nat.le_refl _) _).setCell (Nat.le_refl _) _).setCell (Nat.le_refl _) _).setCell (Nat.le_refl _) _
    obtain ⟨b1, off1, rfl, hat⟩ := HZ.out.2 (by omega)
    have hkm : k < zs.length := by have := HM.out; omega
    have c0 := (World.cell?_of_block (a := ⟨b1, off1 + k, none⟩) (HBr.out.block b1 (World.block_lt_of_cell? w _ (hat k hkm)))).trans (hat k hkm)
    obtain ⟨⟨hz0, hz1⟩, -⟩ := HUP.out k zs[k] (List.getElem?_eq_getElem hkm)
    obtain ⟨j, hj⟩ := Int.eq_ofNat_of_zero_le hz0
    have HZK : Hid (zs[k]? = some (j : Int)) := by show _ = _; rw [List.getElem?_eq_getElem hkm, hj]
    rw [hj] at c0 hz1
    clear hat hz0 hj hkm
    have hjn : j < n := by omega
    obtain ⟨t, u, hqj, htj⟩ := M.wr_at (ts := ts) (by rw [X0.out]) HQr.out (by have := HN.out; omega : j < ts.length)
    obtain ⟨t0, t1, t2, t3, tf, ua, uc, hu⟩ := HWr.out.at hqj
    have hrt := M.tapeR_iff.1 ((M.wr_right (zs.take k) (x := x0) (by rw [X0.out]; exact HT.out.2) (by rw [X0.out]; exact M.tbl_size)).1 _ (List.mem_of_getElem? htj))
    obtain ⟨lab, ss, syn, room⟩ := t
    simp only at hu t0 t1 t2 t3 hrt
    subst hu
    obtain ⟨⟨hl0, hl1⟩, ⟨hr0, hr1⟩, hlr, -, -⟩ := hrt
    have y0 := M.bk_cell HV1.out 0 (.slice (some ⟨g, 0, none⟩) n cap) rfl
    have y1 := M.bk_cell HV1.out 1 (.slice pa pn pc) rfl
    have yf := M.bk_free HV1.out
    obtain ⟨MM, hMM⟩ : ∃ MM, MM = M.wrM ⟨lab, ss, syn, room⟩ (M.wr x0 (zs.take k)).bs := ⟨_, rfl⟩
    have hmin : min (room - (ss.length : Int)) (rn : Int) = (MM : Int) := by rw [hMM, HRN.out]; unfold M.wrM; simp only; omega
    have HQJ := M.hl hqj
    have HTJ := M.hl htj
    have HMM := M.hl hMM
    have hmr : MM ≤ rn := by omega
    clear hqj htj hMM
    by_cases hz : MM = 0
    · have dz : decide (0 < MM) = false := decide_eq_false (by omega)
      have HST : Hid (M.wr x0 (zs.take (k + 1)) = M.wr x0 (zs.take k)) := by
        show _ = _
        rw [M.wr_snoc x0 HZK.out]
        exact M.wr1_not (by rw [Int.toNat_natCast]; exact HTJ.out) (by rw [← HMM.out]; exact hz)
      clear hz
      go_wp2
      go_roundw
      case rel => exact ⟨k + 1, .slice pa pn pc, qs, ra, rn, rc, by go_num, rfl, by omega, by show _ = _; rw [HST.out]; exact HQr.out, by show M.WrW _ _ _ _ _ _ _ _ _ _ _; rw [HST.out]; exact HWr.out, HV0, HV1, HBr⟩
      case measure => simp [intOf]; omega
    have dz : decide (0 < MM) = true := decide_eq_true (by omega)
    obtain ⟨X, hX⟩ : ∃ X, X = M.wr x0 (zs.take k) := ⟨_, rfl⟩
    have HX := M.hl hX
    rw [← hX] at HQr HWr HRL HRN HTJ HMM hpl
    clear hX
    have HPA : Hid (∀ o, (wr.alloc o).drew.ownsRow w.heap.size 47 4 (.slice pa pn pc) X.ps.length (M.cellsPt X.ps)) := fun o => World.ownsRow.alloc HWr.out.pt o
    have HBA : Hid (∀ o, w.heap.size ≤ (wr.alloc o).drew.heap.size) := fun o => by
      have h1 : (wr.alloc o).drew.heap.size = wr.heap.size + 1 := by show (wr.alloc o).heap.size = _; simp
      have := HBr.out.size
      omega
    have yA1 : ∀ o, (wr.alloc o).cell? ⟨B, 1, none⟩ = some (.slice pa pn pc) := fun o => M.bk_cell ((heap_alloc_old _ _ (Array.getElem?_eq_some_iff.1 HV1.out).1).trans HV1.out) 1 _ rfl
    have HST : Hid (M.wr x0 (zs.take (k + 1)) = ⟨X.ts.set j ⟨lab, ss ++ X.bs.take MM, syn, room⟩, X.ps ++ [⟨(j : Int), lab, (ss.length : Int), (MM : Int)⟩], X.bs.drop MM⟩) := by
      show _ = _
      rw [M.wr_snoc x0 HZK.out, ← HX.out, M.wr1_hit (t := ⟨lab, ss, syn, room⟩) (by rw [Int.toNat_natCast]; exact HTJ.out) (by rw [← HMM.out]; omega), ← HMM.out, Int.toNat_natCast]
    obtain ⟨i0, hi, hs0, hs1, hs2⟩ := info_parts Try.infoTx
    obtain ⟨ip, hip, hpz0, hpz1, hpz2⟩ := info_parts Try.infoPt
    go_wp2_with fail
    go_region_law (refine M.step_own_at rfl (.tmp 70) (.tmp 79) 27 rfl w.heap.size 47 ip (.agg #[.int .i64 0, .int .i64 0, .int .i64 0, .int .i64 0]) 4 32 Try.underlying27 hip hpz0 hpz1 hpz2 rfl (by decide) (.slice pa pn pc) X.ps.length (M.cellsPt X.ps) (by simp [Act.eval]) (HPA.out _) ⟨wr.heap.size, 0, none⟩ 1 1 (M.ptcells ⟨(j : Int), lab, (ss.length : Int), (MM : Int)⟩) (by simp [Act.eval]) rfl (M.four_nt wr ⟨(j : Int), lab, (ss.length : Int), (MM : Int)⟩ _) (M.oneCell4t _) (by unfold maxLen; omega) (by omega) (HBA.out _) ?_; intro v' W2 hown' hgrow hat; obtain ⟨hw2, h20, h21, hb2⟩ := HWr.out.partAll hown' hgrow hat HV0.out HV1.out (by decide) (by decide) HBr.out HBr.out.size; obtain ⟨va, vn, vc, rfl⟩ : ∃ a n c, v' = .slice a n c := (hw2.pt.len).elim fun a ⟨c, e⟩ => ⟨a, _, c, e⟩; have HW2 := M.hl hw2; have V20 := M.hl h20; have V21 := M.hl h21; have B2 := M.hl hb2; have q1 := M.bk_cell h21 1 (.slice pa pn pc) rfl; have qf := M.bk_free h21; clear hown' hgrow hat hw2 h20 h21 hb2)
    all_goals
      have HW3 := M.hl (HW2.out.setBox V21.out (by decide) (by decide) (by decide) RB.out.2 1 (.slice va vn vc))
      have V30 : Hid ((W2.setCell ⟨B, 1, none⟩ (.slice va vn vc)).heap[w.heap.size]? = some (.cells #[.slice none 0 0, .slice none 0 0, .string ⟨#[]⟩, .int .i64 0] 29 (0, 0))) := (M.setfr (by have := HB0.out; omega)).trans V20.out
      have V31 := M.hl (M.bk_put V21.out (.slice va vn vc))
      have B3 : Hid (Below w.heap.size w (W2.setCell ⟨B, 1, none⟩ (.slice va vn vc))) := B2.out.setCell (Nat.le_of_lt HB0.out) _
      clear q1 qf y0 y1 yf yA1 t0 t1 t2 t3 tf
      generalize W2.setCell ⟨B, 1, none⟩ (.slice va vn vc) = W3 at HW3 V30 V31 B3 ⊢
      obtain ⟨t0, t1, t2, t3, tf, -⟩ := HW3.out.at HQJ.out
      simp only at t0 t1 t2 t3
      have hST := HW3.out.rs.at
      have hrc : rn ≤ rc := hST.2.1
      obtain ⟨b6, off6, rfl, -⟩ := hST.2.2.2 (by omega)
      have HNW : Hid (∀ j u, ((X.bs.take MM).map Value.string)[j]? = some u → W3.drew.cell? ((⟨b6, off6, none⟩ : Addr).add j) = some u) := fun j u h => hST.srcTake j u h
      have HOA : Hid (W3.drew.ownsRow w.heap.size 9 1 (.slice ua ss.length uc) ss.length (ss.map Value.string)) := M.OwnS.below (HW3.out.tp.each _ (List.mem_of_getElem? HQJ.out)).1 (Below.refl _ _).drew
      have HB3 : Hid (w.heap.size ≤ W3.drew.heap.size) := B3.out.size
      have HLM : Hid ((X.bs.take MM).length = MM) := by show _ = _; rw [List.length_take]; have := HRN.out; omega
      have hsl : ∀ W, (Instr.slice 34 (.slice (some ⟨b6, off6, none⟩) rn rc) none (some (.int .i64 (MM : Int))) none).run Try.prog W = .ok (.slice (some ⟨b6, off6, none⟩) MM rc) W := fun W => Try.cut_to W _ rn rc MM (by omega)
      clear hST
      go_wp2_with fail
      go_region_law (refine M.step_own_at rfl (.tmp 86) (.tmp 89) 34 rfl w.heap.size 9 i0 (.string ⟨#[]⟩) 1 16 Try.underlying34 hi hs0 hs1 hs2 rfl (by decide) (.slice ua ss.length uc) ss.length (ss.map Value.string) (by simp [Act.eval]) HOA.out ⟨b6, off6, none⟩ MM rc ((X.bs.take MM).map Value.string) (by simp [Act.eval]) (by rw [List.length_map, HLM.out, Nat.mul_one]) HNW.out (M.oneStrs _) (by unfold maxLen; omega) (by omega) HB3.out ?_; intro v9 W4 hown' hgrow hat; obtain ⟨⟨xa, xn, xc, rfl⟩, hw4, q1, qf, h40, h41, hb4⟩ := HW3.out.tapeAll (more := X.bs.take MM) HQJ.out (by rw [HLM.out]; exact hown') hgrow hat V30.out V31.out (by decide) (by decide) (by decide) (by decide) B3.out B3.out.size; have HW4 := M.hl hw4; have V40 := M.hl h40; have V41 := M.hl h41; have B4 := M.hl hb4; clear hown' hgrow hat hw4 h40 h41 hb4)
      all_goals
        clear t0 t1 t2 t3 tf q1 qf
        go_wp2
        go_roundw
        case rel =>
          refine ⟨k + 1, .slice va vn vc, qs.take j ++ (⟨lab, ss ++ X.bs.take MM, syn, room⟩, .slice xa xn xc) :: qs.drop (j + 1), _, _, _, by go_num, rfl, by omega, ?_, ?_, V40, V41, B4⟩
          · show List.map _ _ = _
            rw [HST.out]
            exact M.map_put HQr.out (List.getElem?_eq_some_iff.1 HTJ.out).1
          · show M.WrW _ _ _ _ _ _ _ _ _ _ _
            rw [HST.out]
            have hd := HW4.out.drop hmr
            rw [M.sliced1] at hd
            exact hd
        case measure => simp [intOf]; omega
end Go.Proofs.Ytappficbjjkmiaa
