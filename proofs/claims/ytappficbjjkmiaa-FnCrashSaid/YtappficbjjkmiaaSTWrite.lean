/-
  What l07Write of the specification does.
-/
import Derived.Test.YtappficbjjkmiaaPart13
import Derived.Test.YtappficbjjkmiaaIUse
import Derived.Test.YtappficbjjkmiaaPart8
import Derived.Test.YtappficbjjkmiaaSBlocks
import Derived.Test.YtappficbjjkmiaaSMinT
import Derived.Test.YtappficbjjkmiaaStepOwnAt
import Derived.Test.YtappficbjjkmiaaPart10
import Derived.Deep.RegionLaw
import Derived.Deep.RegionHeldLaw
namespace Go.Proofs.Ytappficbjjkmiaa
open Go.RowKit

theorem M.nvS {w W : World} {a : Option Addr} {len : Nat} {zs : List Int} (h : M.NV w a len zs) (hb : Below w.heap.size w W) : M.NV W a len zs := by
  obtain ⟨h1, h2⟩ := h
  refine ⟨h1, fun hl => ?_⟩
  obtain ⟨b, off, e, hf⟩ := h2 hl
  exact ⟨b, off, e, fun i hi => (World.cell?_of_block (a := ⟨b, off + i, none⟩) (hb.block b (World.block_lt_of_cell? w _ (hf i hi)))).trans (hf i hi)⟩
set_option maxRecDepth 100000 in
set_option maxHeartbeats 3200000 in
theorem sWr_any (w : World) (ad : Addr) (n c : Nat) (ts : List M.TapeD) (a1 : Option Addr) (m c1 : Nat) (zs : List Int) (s : ByteArray) (h : M.Tps w (some ad) n c ts) (hl : n + M.tln ts ≤ 1048576) (h' : M.NV w a1 m zs) (hm : m ≤ 400) (hs : s.size ≤ 20000)
    (hT : (1 ≤ ts.length ∧ ts.length ≤ 8) ∧ ∀ t ∈ ts, M.tapeR t = true) (hu : M.useP n zs) :
    Calls Try.prog 53 #[.slice (some ad) n c, .slice a1 m c1, .string s] w fun e w' => ∃ (va : Option Addr) (vc : Nat) (pa : Option Addr) (pn pc : Nat) (qs : List (M.TapeD × Value)), e = .returned (.tuple #[.slice va n vc, .slice pa pn pc, .bool (decide ((M.wr ⟨ts, [], M.tbl s ((s.size + 63) / 64)⟩ zs).bs = []))]) ∧ qs.map Prod.fst = (M.wr ⟨ts, [], M.tbl s ((s.size + 63) / 64)⟩ zs).ts ∧ M.OwnT w' w.heap.size w'.heap.size (.slice va n vc) qs ∧ M.OwnPt w' w.heap.size (.slice pa pn pc) (M.wr ⟨ts, [], M.tbl s ((s.size + 63) / 64)⟩ zs).ps ∧ Below w.heap.size w w' := by
  have HF := M.hl h
  have HN : Hid (n = ts.length) := h.1
  have HM : Hid (m = zs.length) := h'.1
  have HL := M.hl hl
  have HUP := M.hl hu
  have HZ := M.hl h'
  have HT := M.hl hT
  clear h hl hu h' hT
  obtain ⟨x0, hx0⟩ : ∃ x0 : M.WrS, x0 = ⟨ts, [], M.tbl s ((s.size + 63) / 64)⟩ := ⟨_, rfl⟩
  have X0 := M.hl hx0
  rw [← hx0]
  clear hx0
  go_enter Try.func53, Try.ntmps53
  go_wp2_with fail
  refine (sCopyTp_any w ad n c ts HF.out HL.out).mono ?_
  rintro e w1 ⟨v, qs, rfl, hq, hO, hb⟩
  have hql : qs.length = n := by rw [HN.out, ← hq, List.length_map]
  obtain ⟨g, cap, rfl⟩ : ∃ g cap, v = .slice (some ⟨g, 0, none⟩) n cap := by
    obtain ⟨⟨-, ⟨-, h0⟩ | ⟨g, cap, cur, e, -⟩⟩, -, -, -⟩ := hO
    · have := HT.out.1; have := HN.out; omega
    · rw [hql] at e; exact ⟨g, cap, e⟩
  have HQ := M.hl hq
  have HO := M.hl hO
  have B1 := M.hl hb
  clear hq hO hb hql
  go_wp2_with fail
  refine (sBlocks_any s _ hs).mono ?_
  rintro e w4 ⟨v4, rfl, hO4, hb⟩
  have ab : Below w1.heap.size w1 (w1.alloc (.cells #[] 47)) := (Below.refl _ _).alloc (Nat.le_refl _) _
  have hb2 : Below w1.heap.size w1 w4 := M.sl ab hb
  have B4 := M.hl (M.sl B1.out hb2)
  have hwb : w.heap.size ≤ w1.heap.size := B1.out.size
  have hOT := HO.out.below hb2
  have hPT : M.OwnPt w4 w1.heap.size (.slice (some ⟨w1.heap.size, 0, none⟩) 0 0) [] := (M.OwnPt.empty w1 w1 (Nat.le_refl _)).below hb
  have hsz4 : w1.heap.size < w4.heap.size := by have := hb.size; simp at this; omega
  have hlow : ∀ b, v4.ownBlock = some b → w1.heap.size + 1 ≤ b ∧ b < w4.heap.size := fun b hb' => by
    have h1 := World.ownsRow.lt hO4 b hb'
    have h2 := (World.ownsRow.lt hO4 b hb').1
    simp at h2
    exact ⟨h2, h1.2⟩
  have WS : Hid (M.WrW w4 w.heap.size g n cap (.slice (some ⟨w1.heap.size, 0, none⟩) 0 0) v4 v4.ownBlock qs [] (M.tbl s ((s.size + 63) / 64))) := by
    refine ⟨hOT.widen (Nat.le_refl _) (by omega), hPT.down hwb, fun b hb' => ?_, M.Rest.ofOwn hO4, fun b hb' => (hlow b hb').2, fun b hb' => ⟨⟨fun e => ?_, fun p hp e => ?_⟩, fun e => ?_⟩⟩
    · obtain rfl := Option.some.inj hb'
      exact ⟨fun e => by have := hOT.top _ e; simp at this, fun p hp e => by have := (hOT.each p hp).2 _ e; simp at this⟩
    · have := hOT.top b e
      have := (hlow b hb').1
      omega
    · have := (hOT.each p hp).2 b e
      have := (hlow b hb').1
      omega
    · have h3 : w1.heap.size = b := Option.some.inj e
      have := (hlow b hb').1
      omega
  obtain ⟨a4, c4, rfl⟩ : ∃ a4 c4, v4 = .slice a4 (M.tbl s ((s.size + 63) / 64)).length c4 := M.OwnS.len hO4
  generalize (Value.slice a4 (M.tbl s ((s.size + 63) / 64)).length c4).ownBlock = rb at WS
  have hbl : (M.tbl s ((s.size + 63) / 64)).length = x0.bs.length := by rw [X0.out]
  clear hO4 hb ab hb2 hOT hPT hsz4 hlow hwb HO B1
  go_wp2
  go_loopw [10, 11, 12] (fun p r i wr => ∃ (k : Nat) (qs : List (M.TapeD × Value)) (pa : Option Addr) (pn pc : Nat) (ra : Option Addr) (rn rc : Nat), i = .int .i64 k ∧ p = .slice pa pn pc ∧ r = .slice ra rn rc ∧ k ≤ m ∧ Hid (qs.map Prod.fst = (M.wr x0 (zs.take k)).ts) ∧ Hid (M.WrW wr w.heap.size g n cap (.slice pa pn pc) (.slice ra rn rc) rb qs (M.wr x0 (zs.take k)).ps (M.wr x0 (zs.take k)).bs) ∧ Hid (Below w.heap.size w wr)) (fun _ _ i _ => m - (intOf i).toNat)
  case atStart =>
    refine ⟨0, qs, _, _, _, _, _, _, rfl, rfl, rfl, Nat.zero_le _, ?_, ?_, B4⟩
    · show _ = _; rw [HQ.out, X0.out]; rfl
    · show M.WrW _ _ _ _ _ _ _ _ _ _ _
      rw [X0.out]
      exact WS.out
  case round =>
    obtain ⟨k, qs, pa, pn, pc, ra, rn, rc, rfl, rfl, rfl, hk, HQr, HWr, HBr⟩ := hrel
    obtain ⟨hrn, hrl⟩ : rn = (M.wr x0 (zs.take k)).bs.length ∧ ∀ b ∈ (M.wr x0 (zs.take k)).bs, b.size = 64 := by
      obtain ⟨a', c', e, -⟩ := HWr.out.rs
      cases e
      exact ⟨rfl, (M.wr_right (zs.take k) (x := x0) (by rw [X0.out]; exact HT.out.2) (by rw [X0.out]; exact M.tbl_size)).2⟩
    have HRN := M.hl hrn
    have hps := M.wr_ps (zs.take k) x0
    have htk : (zs.take k).length ≤ k := List.length_take_le _ _
    have hx0 : x0.ps.length = 0 ∧ x0.bs.length ≤ 20000 := by
      rw [X0.out]
      refine ⟨rfl, ?_⟩
      rw [M.tbl_len]
      omega
    have hr313 : rn ≤ 20000 := by omega
    have hpl : (M.wr x0 (zs.take k)).ps.length ≤ 400 := by omega
    clear hps htk hx0 hrl hrn
    by_cases hlt : k < m
    case neg =>
      obtain rfl : k = m := by omega
      have htk : zs.take k = zs := List.take_of_length_le (by have := HM.out; omega)
      rw [htk] at HQr HWr HRN
      have HE : Hid ((decide ((M.wr x0 zs).bs = [])) = ((rn : Int) == 0)) := by
        show _ = _
        rw [HRN.out]
        cases (M.wr x0 zs).bs with
        | nil => rfl
        | cons x l => simp; omega
      clear htk
      go_wp2
      refine bodyPost_ret (v := .tuple #[.slice (some ⟨g, 0, none⟩) n cap, .slice pa pn pc, .bool (decide ((M.wr x0 zs).bs = []))]) (by rw [HE.out]; simp [results, Try.results53, go_sem]) rfl ?_
      exact ⟨_, _, _, _, _, qs, rfl, HQr.out, HWr.out.tp, HWr.out.pt, HBr.out⟩
    by_cases hr0 : rn = 0
    · have HX : Hid (M.wr x0 zs = M.wr x0 (zs.take k)) := M.wr_stop x0 zs k (List.length_eq_zero_iff.1 (by rw [← HRN.out]; exact hr0))
      have HE : Hid (decide ((M.wr x0 zs).bs = []) = true) := decide_eq_true (by rw [HX.out]; exact List.length_eq_zero_iff.1 (by rw [← HRN.out]; exact hr0))
      subst hr0
      go_wp2
      refine bodyPost_ret (v := .tuple #[.slice (some ⟨g, 0, none⟩) n cap, .slice pa pn pc, .bool (decide ((M.wr x0 zs).bs = []))]) (by rw [HE.out]; simp [results, Try.results53, go_sem]) rfl ?_
      exact ⟨_, _, _, _, _, qs, rfl, by rw [HX.out]; exact HQr.out, HWr.out.tp, by rw [HX.out]; exact HWr.out.pt, HBr.out⟩
    obtain ⟨b1, off1, rfl, hat⟩ := HZ.out.2 (by omega)
    have hkm : k < zs.length := by have := HM.out; omega
    have HC0 : Hid (∀ W, Below w.heap.size w W → W.cell? ⟨b1, off1 + k, none⟩ = some (.int .i64 zs[k])) := fun W hW => (World.cell?_of_block (a := ⟨b1, off1 + k, none⟩) (hW.block b1 (World.block_lt_of_cell? w _ (hat k hkm)))).trans (hat k hkm)
    obtain ⟨⟨hz0, hz1⟩, -⟩ := HUP.out k zs[k] (List.getElem?_eq_getElem hkm)
    obtain ⟨j, hj⟩ := Int.eq_ofNat_of_zero_le hz0
    have HZK : Hid (zs[k]? = some (j : Int)) := by show _ = _; rw [List.getElem?_eq_getElem hkm, hj]
    rw [hj] at HC0 hz1
    clear hat hz0 hj hkm
    have hjn : j < n := by omega
    obtain ⟨t, u, hqj, htj⟩ := M.wr_at (ts := ts) (by rw [X0.out]) HQr.out (by have := HN.out; omega : j < ts.length)
    obtain ⟨t0, t1, t2, t3, tf, ua, uc, hu⟩ := HWr.out.at hqj
    have hrt := M.tapeR_iff.1 ((M.wr_right (zs.take k) (x := x0) (by rw [X0.out]; exact HT.out.2) (by rw [X0.out]; exact M.tbl_size)).1 _ (List.mem_of_getElem? htj))
    obtain ⟨lab, ss, syn, room⟩ := t
    simp only at hu t0 t1 t2 t3 hrt
    subst hu
    obtain ⟨⟨hl0, hl1⟩, ⟨hr0', hr1⟩, hlr, -, -⟩ := hrt
    obtain ⟨MM, hMM⟩ : ∃ MM, MM = M.wrM ⟨lab, ss, syn, room⟩ (M.wr x0 (zs.take k)).bs := ⟨_, rfl⟩
    have hmin : min (rn : Int) (room - (ss.length : Int)) = (MM : Int) := by rw [hMM, HRN.out]; unfold M.wrM; simp only; omega
    have CMN : Hid (∀ W, Calls Try.prog 62 #[.int .i64 rn, .int .i64 (room - (ss.length : Int))] W fun e w' => e = .returned (.int .i64 (MM : Int)) ∧ W = w') := fun W => by rw [← hmin]; exact sMinT_any _ _ W
    have HQJ := M.hl hqj
    have HTJ := M.hl htj
    have HMM := M.hl hMM
    have hmr : MM ≤ rn := by omega
    have c0 := HC0.out wr HBr.out
    clear hqj htj hMM hmin
    obtain ⟨X, hX⟩ : ∃ X, X = M.wr x0 (zs.take k) := ⟨_, rfl⟩
    have HX := M.hl hX
    rw [← hX] at HQr HWr HRN HTJ HMM hpl
    clear hX
    obtain ⟨B, hB⟩ : ∃ B, B = wr.heap.size := ⟨_, rfl⟩
    go_wp2_with fail
    refine (CMN.out _).mono ?_
    rintro e w5 ⟨rfl, rfl⟩
    rw [← hB]
    have hb1 : Below wr.heap.size wr (wr.alloc (.cells #[.int .i64 lab, .slice ua ss.length uc, .int .i64 syn, .int .i64 room] 36)) := (Below.refl _ _).alloc (Nat.le_refl _) _
    have V1 : Hid ((wr.alloc (.cells #[.int .i64 lab, .slice ua ss.length uc, .int .i64 syn, .int .i64 room] 36)).heap[B]? = some (.cells #[.int .i64 lab, .slice ua ss.length uc, .int .i64 syn, .int .i64 room] 36 (0, 0))) := by rw [hB]; exact heap_alloc_new _ _
    have HW1 := M.hl (HWr.out.below hb1)
    have B1 := M.hl (M.sl HBr.out hb1)
    have HGB : Hid (g ≠ B) := fun e => by have := HWr.out.tp.top g rfl; omega
    have HRB : Hid (rb ≠ some B) := fun e => by have := HWr.out.rl _ e; omega
    have HLB : Hid (w.heap.size ≤ B) := by rw [hB]; exact HBr.out.size
    clear hb1 hB t0 t1 t2 t3 tf c0
    generalize wr.alloc (.cells #[.int .i64 lab, .slice ua ss.length uc, .int .i64 syn, .int .i64 room] 36) = W1 at V1 HW1 B1 ⊢
    by_cases hz : MM = 0
    · have dz : ((MM : Int) == 0) = true := by rw [beq_iff_eq]; omega
      have HST : Hid (M.wr x0 (zs.take (k + 1)) = X) := by
        show _ = _
        rw [M.wr_snoc x0 HZK.out, ← HX.out]
        exact M.wr1_not (by rw [Int.toNat_natCast]; exact HTJ.out) (by rw [← HMM.out]; exact hz)
      clear hz
      go_wp2
      go_roundw
      case rel => exact ⟨k + 1, qs, pa, pn, pc, ra, rn, rc, by go_num, rfl, rfl, by omega, by show _ = _; rw [HST.out]; exact HQr.out, by show M.WrW _ _ _ _ _ _ _ _ _ _ _; rw [HST.out]; exact HW1.out, B1⟩
      case measure => simp [intOf]; omega
    have dz : ((MM : Int) == 0) = false := by rw [beq_eq_false_iff_ne]; omega
    have HST : Hid (M.wr x0 (zs.take (k + 1)) = ⟨X.ts.set j ⟨lab, ss ++ X.bs.take MM, syn, room⟩, X.ps ++ [⟨(j : Int), lab, (ss.length : Int), (MM : Int)⟩], X.bs.drop MM⟩) := by
      show _ = _
      rw [M.wr_snoc x0 HZK.out, ← HX.out, M.wr1_hit (t := ⟨lab, ss, syn, room⟩) (by rw [Int.toNat_natCast]; exact HTJ.out) (by rw [← HMM.out]; omega), ← HMM.out, Int.toNat_natCast]
    have HPA : Hid (∀ o, (W1.alloc o).drew.ownsRow w.heap.size 47 4 (.slice pa pn pc) X.ps.length (M.cellsPt X.ps)) := fun o => World.ownsRow.alloc HW1.out.pt o
    have HBA : Hid (∀ o, w.heap.size ≤ (W1.alloc o).drew.heap.size) := fun o => by
      have h1 : (W1.alloc o).drew.heap.size = W1.heap.size + 1 := by show (W1.alloc o).heap.size = _; simp
      have := B1.out.size
      omega
    have c0 := HC0.out W1 B1.out
    have y0 := M.bk_cell V1.out 0 (.int .i64 lab) rfl
    have y1 := M.bk_cell V1.out 1 (.slice ua ss.length uc) rfl
    obtain ⟨i0, hi, hs0, hs1, hs2⟩ := info_parts Try.infoTx
    obtain ⟨ip, hip, hpz0, hpz1, hpz2⟩ := info_parts Try.infoPt
    go_wp2_with fail
    go_region_held_law (fun w' => w'.cell? ⟨b1, off1 + k, none⟩ = some (.int .i64 (j : Int)) ∧ w'.cell? ⟨B, 0, none⟩ = some (.int .i64 lab) ∧ w'.cell? ⟨B, 1, none⟩ = some (.slice ua ss.length uc)) (first | (with_reducible exact ⟨c0, y0, y1⟩) | (with_reducible exact ⟨q0, q1, q2⟩) | go_keep) (first | (refine M.step_own_atD rfl 62 rfl (.tmp 49) (.tmp 61) 27 rfl w.heap.size 47 ip (.agg #[.int .i64 0, .int .i64 0, .int .i64 0, .int .i64 0]) 4 32 Try.underlying27 hip hpz0 hpz1 hpz2 rfl (by decide) (.slice pa pn pc) X.ps.length (M.cellsPt X.ps) (by simp [Act.eval]) (HPA.out _) ⟨W1.heap.size, 0, none⟩ 1 1 (M.ptcells ⟨(j : Int), lab, (ss.length : Int), (MM : Int)⟩) (by simp [Act.eval]) rfl (M.four_nt W1 ⟨(j : Int), lab, (ss.length : Int), (MM : Int)⟩ _) (M.oneCell4t _) (by unfold maxLen; omega) (by omega) (HBA.out _) ?_; intro v' W2 hown' hgrow hat; obtain ⟨hw2, h21, h20, hb2⟩ := HW1.out.partAll hown' hgrow hat V1.out V1.out (by decide) (by decide) B1.out B1.out.size; obtain ⟨va, vn, vc, rfl⟩ : ∃ a n c, v' = .slice a n c := (hw2.pt.len).elim fun a ⟨c, e⟩ => ⟨a, _, c, e⟩; have HW2 := M.hl hw2; have V21 := M.hl h21; have B2 := M.hl hb2; have q0 := HC0.out W2 hb2; have q1 := M.bk_cell h21 0 (.int .i64 lab) rfl; have q2 := M.bk_cell h21 1 (.slice ua ss.length uc) rfl; clear hown' hgrow hat hw2 h20 h21 hb2))
    clear y0 y1 c0 q0 q1 q2
    have q0 := HC0.out W2 B2.out
    have y1 := M.bk_cell V21.out 1 (.slice ua ss.length uc) rfl
    have hST := HW2.out.rs.at
    have hrc : rn ≤ rc := hST.2.1
    obtain ⟨b6, off6, rfl, -⟩ := hST.2.2.2 (by omega)
    have HNW : Hid (∀ j u, ((X.bs.take MM).map Value.string)[j]? = some u → W2.drew.cell? ((⟨b6, off6, none⟩ : Addr).add j) = some u) := fun j u h => hST.srcTake j u h
    have HOA : Hid (W2.drew.ownsRow w.heap.size 9 1 (.slice ua ss.length uc) ss.length (ss.map Value.string)) := M.OwnS.below (HW2.out.tp.each _ (List.mem_of_getElem? HQJ.out)).1 (Below.refl _ _).drew
    have HB3 : Hid (w.heap.size ≤ W2.drew.heap.size) := B2.out.size
    have HLM : Hid ((X.bs.take MM).length = MM) := by show _ = _; rw [List.length_take]; have := HRN.out; omega
    have hsl : ∀ W, (Instr.slice 34 (.slice (some ⟨b6, off6, none⟩) rn rc) none (some (.int .i64 (MM : Int))) none).run Try.prog W = .ok (.slice (some ⟨b6, off6, none⟩) MM rc) W := fun W => Try.cut_to W _ rn rc MM (by omega)
    clear hST q0
    go_wp2_with fail
    go_region_law (refine M.step_own_at rfl (.tmp 64) (.tmp 67) 34 rfl w.heap.size 9 i0 (.string ⟨#[]⟩) 1 16 Try.underlying34 hi hs0 hs1 hs2 rfl (by decide) (.slice ua ss.length uc) ss.length (ss.map Value.string) (by simp [Act.eval]) HOA.out ⟨b6, off6, none⟩ MM rc ((X.bs.take MM).map Value.string) (by simp [Act.eval]) (by rw [List.length_map, HLM.out, Nat.mul_one]) HNW.out (M.oneStrs _) (by unfold maxLen; omega) (by omega) HB3.out ?_; intro v9 W4 hown' hgrow hat; obtain ⟨⟨xa, xn, xc, rfl⟩, q1, qf, hv4, hg4, hw4, hb4, hb5⟩ := HW2.out.tapeBox (more := X.bs.take MM) HQJ.out (by rw [HLM.out]; exact hown') hgrow hat V21.out HGB.out HRB.out B2.out B2.out.size HLB.out; have HV4 := M.hl hv4; have HG4 := M.hl hg4; have HW4 := M.hl hw4; have B4 := M.hl hb4; have B5 := M.hl hb5; clear hown' hgrow hat hv4 hg4 hw4 hb4 hb5)
    all_goals
      clear y1 q1 qf
      obtain ⟨g0, g1, g2, g3, gf⟩ := HG4.out
      have q0 := HC0.out _ B4.out
      have p0 := M.bk_cell HV4.out 0 (.int .i64 lab) rfl
      have p1 := M.bk_cell HV4.out 1 (.slice xa xn xc) rfl
      have p2 := M.bk_cell HV4.out 2 (.int .i64 syn) rfl
      have p3 := M.bk_cell HV4.out 3 (.int .i64 room) rfl
      generalize W4.setCell ⟨B, 1, none⟩ (.slice xa xn xc) = W5 at HV4 HW4 B4 B5 g0 g1 g2 g3 gf q0 p0 p1 p2 p3 ⊢
      go_wp2_with fail
      go_region
      clear g0 g1 g2 g3 gf q0 p0 p1 p2 p3
      go_wp2
      go_roundw
      case rel =>
        refine ⟨k + 1, qs.take j ++ (⟨lab, ss ++ X.bs.take MM, syn, room⟩, .slice xa xn xc) :: qs.drop (j + 1), _, _, _, _, _, _, by go_num, rfl, rfl, by omega, ?_, ?_, B5⟩
        · show List.map _ _ = _
          rw [HST.out]
          exact M.map_put HQr.out (List.getElem?_eq_some_iff.1 HTJ.out).1
        · show M.WrW _ _ _ _ _ _ _ _ _ _ _
          rw [HST.out]
          have hd := HW4.out.drop hmr
          rw [M.sliced1] at hd
          exact hd
      case measure => simp [intOf]; omega

theorem M.TwVal.mk {ok : Bool} {ts : List M.TapeD} {zs : List Int} {s : ByteArray} {w W : World} {va pa : Option Addr} {n vc pn pc : Nat} {qs : List (M.TapeD × Value)} {x : M.WrS} (hE : M.tw ok ts zs s = (x.ts, x.ps, 0)) (hq : qs.map Prod.fst = x.ts) (hO : M.OwnT W w.heap.size W.heap.size (.slice va n vc) qs) (hP : M.OwnPt W w.heap.size (.slice pa pn pc) x.ps) (hb : Below w.heap.size w W) : M.TwVal ok ts zs s w (.returned (.agg #[.slice va n vc, .slice pa pn pc, .string ⟨#[]⟩, .int .i64 0])) W := by
  unfold M.TwVal
  rw [hE]
  exact ⟨_, _, qs, rfl, hq, hO, hP, hb⟩
end Go.Proofs.Ytappficbjjkmiaa
