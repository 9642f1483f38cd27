/-
  What TapeClear of the program does.
-/
import Derived.Test.YtmeblchkccmkcabIEachT
import Derived.Test.YtmeblchkccmkcabITapesR
import Derived.Test.YtmeblchkccmkcabOwnTapeUp
import Derived.Deep.RegionWith
namespace Go.Proofs.Ytmeblchkccmkcab
open Go.RowKit

/-- The tapes that TapeClear tells, and its code. -/
def M.clearO (ts : List M.TapeD) (k : Int) : List M.TapeD × Int :=
  if 400 < ts.length then ([], 2) else
  if M.tapesR ts = true ∧ 0 ≤ k ∧ k < (ts.length : Int) then
    (match ts[k.toNat]? with
    | some t => if t.lab = 1000000 then ([], 8) else (ts.take k.toNat ++ ⟨t.lab + 1, [], 0, t.room⟩ :: ts.drop (k.toNat + 1), 0)
    | none => ([], 1))
  else ([], 1)
theorem M.clear_long {ts : List M.TapeD} {k : Int} (h : 400 < ts.length) : M.clearO ts k = ([], 2) := by unfold M.clearO; rw [if_pos h]
theorem M.clear_no {ts : List M.TapeD} {k : Int} (h : ¬ 400 < ts.length) (h2 : ¬ (M.tapesR ts = true ∧ 0 ≤ k ∧ k < (ts.length : Int))) : M.clearO ts k = ([], 1) := by unfold M.clearO; rw [if_neg h, if_neg h2]
theorem M.clear_last {ts : List M.TapeD} {k : Nat} {t : M.TapeD} (h : ¬ 400 < ts.length) (h2 : M.tapesR ts = true) (hk : ts[k]? = some t) (hl : t.lab = 1000000) : M.clearO ts (k : Int) = ([], 8) := by
  have := (List.getElem?_eq_some_iff.1 hk).1
  unfold M.clearO; rw [if_neg h, if_pos ⟨h2, by omega, by omega⟩, Int.toNat_natCast, hk]
  simp only
  rw [if_pos hl]
theorem M.clear_yes {ts : List M.TapeD} {k : Nat} {t : M.TapeD} (h : ¬ 400 < ts.length) (h2 : M.tapesR ts = true) (hk : ts[k]? = some t) (hl : ¬ t.lab = 1000000) : M.clearO ts (k : Int) = (ts.take k ++ ⟨t.lab + 1, [], 0, t.room⟩ :: ts.drop (k + 1), 0) := by
  have := (List.getElem?_eq_some_iff.1 hk).1
  unfold M.clearO; rw [if_neg h, if_pos ⟨h2, by omega, by omega⟩, Int.toNat_natCast, hk]
  simp only
  rw [if_neg hl]
/-- One tape is put in the place of another, with no blocks. -/
theorem M.OwnT.clr {w : World} {lo hi g n cap k : Nat} {qs : List (M.TapeD × Value)} {p : M.TapeD × Value} (h : M.OwnT w lo hi (.slice (some ⟨g, 0, none⟩) n cap) qs) (hk : qs[k]? = some p) (x z : Int) :
    M.OwnT ((((w.setCell ⟨g, k * 4, none⟩ (.int .i64 x)).setCell ⟨g, k * 4 + 1, none⟩ (.slice none 0 0)).setCell ⟨g, k * 4 + 2, none⟩ (.int .i64 0)).setCell ⟨g, k * 4 + 3, none⟩ (.int .i64 z)) lo hi (.slice (some ⟨g, 0, none⟩) n cap) (qs.take k ++ (⟨x, [], 0, z⟩, .slice none 0 0) :: qs.drop (k + 1)) := by
  obtain ⟨hl, hb, hn, hc, hr, hp⟩ := h.place
  have hkl := (List.getElem?_eq_some_iff.1 hk).1
  have hsp := M.split_at hk
  have hlen : (qs.take k ++ ((⟨x, [], 0, z⟩ : M.TapeD), Value.slice none 0 0) :: qs.drop (k + 1)).length = n := by
    have := congrArg List.length hsp
    simp only [List.length_append, List.length_cons] at this ⊢
    omega
  have hA : (qs.take k).length = k := by rw [List.length_take]; omega
  obtain ⟨c0, c1, c2, c3⟩ := hp k _ hk
  have hold : ∀ j, j ≠ k * 4 → j ≠ k * 4 + 1 → j ≠ k * 4 + 2 → j ≠ k * 4 + 3 → ((((w.setCell ⟨g, k * 4, none⟩ (.int .i64 x)).setCell ⟨g, k * 4 + 1, none⟩ (.slice none 0 0)).setCell ⟨g, k * 4 + 2, none⟩ (.int .i64 0)).setCell ⟨g, k * 4 + 3, none⟩ (.int .i64 z)).cell? ⟨g, j, none⟩ = w.cell? ⟨g, j, none⟩ := fun j h0 h1 h2 h3 => by
    rw [M.co4 (by omega), M.co4 (by omega), M.co4 (by omega), M.co4 (by omega)]
  have hP : M.PAt ((((w.setCell ⟨g, k * 4, none⟩ (.int .i64 x)).setCell ⟨g, k * 4 + 1, none⟩ (.slice none 0 0)).setCell ⟨g, k * 4 + 2, none⟩ (.int .i64 0)).setCell ⟨g, k * 4 + 3, none⟩ (.int .i64 z)) g (qs.take k ++ (⟨x, [], 0, z⟩, .slice none 0 0) :: qs.drop (k + 1)) := by
    intro j r hr'
    by_cases e : j = k
    · subst e
      rw [List.getElem?_append_right (by omega), hA, Nat.sub_self] at hr'
      obtain rfl := Option.some.inj hr'
      refine ⟨?_, ?_, ?_, ?_⟩
      · rw [M.co4 (by omega), M.co4 (by omega), M.co4 (by omega), World.cell?_setCell_same _ _ _ c0]
      · rw [M.co4 (by omega), M.co4 (by omega), World.cell?_setCell_same _ _ _ ((M.co4 (by omega)).trans c1)]
      · rw [M.co4 (by omega), World.cell?_setCell_same _ _ _ ((M.co4 (by omega)).trans ((M.co4 (by omega)).trans c2))]
      · rw [World.cell?_setCell_same _ _ _ ((M.co4 (by omega)).trans ((M.co4 (by omega)).trans ((M.co4 (by omega)).trans c3)))]
    · have hq : qs[j]? = some r := by
        rw [hsp]
        by_cases hj : j < (qs.take k).length
        · rw [List.getElem?_append_left hj] at hr' ⊢; exact hr'
        · rw [List.getElem?_append_right (by omega)] at hr' ⊢
          obtain ⟨t, ht⟩ : ∃ t, j - (qs.take k).length = t + 1 := ⟨j - (qs.take k).length - 1, by omega⟩
          rw [ht] at hr' ⊢
          exact hr'
      obtain ⟨e0, e1, e2, e3⟩ := hp j r hq
      exact ⟨by rw [hold _ (by omega) (by omega) (by omega) (by omega)]; exact e0, by rw [hold _ (by omega) (by omega) (by omega) (by omega)]; exact e1, by rw [hold _ (by omega) (by omega) (by omega) (by omega)]; exact e2, by rw [hold _ (by omega) (by omega) (by omega) (by omega)]; exact e3⟩
  have hE := M.each.set (M.each.set (M.each.set (M.each.set h.each hr (k * 4) (.int .i64 x)) (hr.setCell _ _) (k * 4 + 1) (.slice none 0 0)) ((hr.setCell _ _).setCell _ _) (k * 4 + 2) (.int .i64 0)) (((hr.setCell _ _).setCell _ _).setCell _ _) (k * 4 + 3) (.int .i64 z)
  have hAp := h.apart
  rw [hsp] at hAp
  obtain ⟨a1, a2, a3⟩ := List.pairwise_append.1 hAp
  refine ⟨?_, h.top, fun r hr' => ?_, ?_⟩
  · have := M.row_of (cap := cap) (lo := lo) hP ((((hr.setCell _ _).setCell _ _).setCell _ _).setCell _ _) hb (by rw [hlen]; exact hn) hc
    rwa [hlen] at this ⊢
  · rcases List.mem_append.1 hr' with h1 | h1
    · exact hE r (List.mem_of_mem_take h1)
    · rcases List.mem_cons.1 h1 with rfl | h2
      · exact ⟨M.OwnS.nil _ _, (fun g hg => by cases hg)⟩
      · exact hE r (List.mem_of_mem_drop h2)
  · refine List.pairwise_append.2 ⟨a1, List.pairwise_cons.2 ⟨(fun q _ g hg => by cases hg), (List.pairwise_cons.1 a2).2⟩, fun r hr' q hq => ?_⟩
    rcases List.mem_cons.1 hq with rfl | h2
    · intro g _ e; cases e
    · exact a3 r hr' q (List.mem_cons_of_mem _ h2)

set_option maxRecDepth 100000 in
theorem iIsTape_any (w : World) (a : Option Addr) (n c : Nat) (k : Int) (_ : n ≤ 9223372036854775807) :
    Calls Try.prog 34 #[.slice a n c, .int .i64 k] w fun e w' => e = .returned (.bool (decide (0 ≤ k ∧ k < (n : Int)))) ∧ w = w' := by
  by_cases h0 : 0 ≤ k
  · have d0 : decide (0 ≤ k) = true := decide_eq_true h0
    by_cases h1 : k < (n : Int)
    · rw [decide_eq_true (show 0 ≤ k ∧ k < (n : Int) from ⟨h0, h1⟩)]
      have d1 : decide (k < (n : Int)) = true := decide_eq_true h1
      clear h0 h1
      go_enter Try.func34, Try.ntmps34
      go_wp2
      go_ret
      exact ⟨rfl, rfl⟩
    · rw [decide_eq_false (show ¬ (0 ≤ k ∧ k < (n : Int)) from fun h => h1 h.2)]
      have d1 : decide (k < (n : Int)) = false := decide_eq_false h1
      clear h0 h1
      go_enter Try.func34, Try.ntmps34
      go_wp2
      go_ret
      exact ⟨rfl, rfl⟩
  · rw [decide_eq_false (show ¬ (0 ≤ k ∧ k < (n : Int)) from fun h => h0 h.1)]
    have d0 : decide (0 ≤ k) = false := decide_eq_false h0
    clear h0
    go_enter Try.func34, Try.ntmps34
    go_wp2
    go_ret
    exact ⟨rfl, rfl⟩

set_option maxRecDepth 100000 in
set_option maxHeartbeats 6400000 in
theorem iClear_any (w : World) (a : Option Addr) (n c : Nat) (ts : List M.TapeD) (k : Int) (h : M.Tps w a n c ts) (hok : ∀ t ∈ ts, M.tok t) (hsm : ∀ t ∈ ts, ∀ s ∈ t.ss, s.size ≤ 100000000) (hl : n + M.tln ts ≤ 1048576) :
    Calls Try.prog 16 #[.slice a n c, .int .i64 k] w fun e w' => ∃ (v : Value) (qs : List (M.TapeD × Value)), e = .returned (.agg #[v, .slice none 0 0, .string ⟨#[]⟩, .int .i64 (M.clearO ts k).2]) ∧ qs.map Prod.fst = (M.clearO ts k).1 ∧ M.OwnT w' w.heap.size w'.heap.size v qs ∧ Below w.heap.size w w' := by
  have HF := M.hl h
  have HSM := M.hl hsm
  have HN : Hid (n = ts.length) := h.1
  have hnl : n ≤ 1048576 := by omega
  have HL := M.hl hl
  have BO : Hid (∀ o, Below w.heap.size w (w.alloc o)) := fun o => (Below.refl _ _).alloc (Nat.le_refl _) _
  have CR : Hid (∀ o, Calls Try.prog 25 #[.slice a n c] (w.alloc o) fun e w' => e = .returned (.bool (M.tapesR ts)) ∧ Below (w.alloc o).heap.size (w.alloc o) w') := fun o => iTapesR_any _ a n c ts (h.below (BO.out o)) hok
  have CI := M.hl (fun W => iIsTape_any W a n c k (by omega))
  have HOK := M.hl hok
  clear h hok hsm hl
  by_cases h4 : 400 < n
  · have HE := M.hl (M.clear_long (ts := ts) (k := k) (by have := HN.out; omega))
    rw [HE.out]
    go_enter Try.func16, Try.ntmps16
    go_wp2
    refine bodyPost_ret (v := .agg #[.slice none 0 0, .slice none 0 0, .string ⟨#[]⟩, .int .i64 2]) (by simp [results, Try.results16, go_sem]) rfl ⟨_, [], rfl, rfl, M.OwnT.nil _ _ _, ?_⟩
    exact BO.out _
  have h4' : decide (400 < (n : Int)) = false := decide_eq_false (by omega)
  cases hr : M.tapesR ts
  · have HE := M.hl (M.clear_no (ts := ts) (k := k) (by have := HN.out; omega) (fun h => by rw [hr] at h; cases h.1))
    rw [HE.out]
    rw [hr] at CR
    clear hr
    go_enter Try.func16, Try.ntmps16
    go_wp2_with fail
    refine (CR.out _).mono ?_
    rintro e w1 ⟨rfl, hb⟩
    have u0 := (hb.block w.heap.size (by simp)).trans (heap_alloc_new w (.cells #[.slice none 0 0, .slice none 0 0, .string ⟨#[]⟩, .int .i64 0] 36))
    have r0 := M.bk_cell u0 0 (.slice none 0 0) rfl
    have r1 := M.bk_cell u0 1 (.slice none 0 0) rfl
    have r2 := M.bk_cell u0 2 (.string ⟨#[]⟩) rfl
    have r3 := M.bk_cell u0 3 (.int .i64 0) rfl
    have fr := M.bk_free u0
    have B1 := M.hl (M.bxd_below hb)
    clear hb u0
    go_wp2
    refine bodyPost_ret (v := .agg #[.slice none 0 0, .slice none 0 0, .string ⟨#[]⟩, .int .i64 1]) (by simp [results, Try.results16, go_sem, r0, r1, r2, r3]) rfl ⟨_, [], rfl, rfl, M.OwnT.nil _ _ _, ?_⟩
    exact (((B1.out.setCell (by simp) _).setCell (by simp) _).setCell (by simp) _).setCell (by simp) _
  rw [hr] at CR
  by_cases hk : 0 ≤ k ∧ k < (n : Int)
  case neg =>
    have HE := M.hl (M.clear_no (ts := ts) (k := k) (by have := HN.out; omega) (fun h => hk (by rw [HN.out]; exact h.2)))
    rw [HE.out]
    rw [decide_eq_false hk] at CI
    clear hr hk
    go_enter Try.func16, Try.ntmps16
    go_wp2_with fail
    refine (CR.out _).mono ?_
    rintro e w1 ⟨rfl, hb⟩
    have u0 := (hb.block w.heap.size (by simp)).trans (heap_alloc_new w (.cells #[.slice none 0 0, .slice none 0 0, .string ⟨#[]⟩, .int .i64 0] 36))
    have r0 := M.bk_cell u0 0 (.slice none 0 0) rfl
    have r1 := M.bk_cell u0 1 (.slice none 0 0) rfl
    have r2 := M.bk_cell u0 2 (.string ⟨#[]⟩) rfl
    have r3 := M.bk_cell u0 3 (.int .i64 0) rfl
    have fr := M.bk_free u0
    have B1 := M.hl (M.bxd_below hb)
    clear hb u0
    go_wp2_with fail
    refine (CI.out _).mono ?_
    rintro e w2 ⟨rfl, rfl⟩
    go_wp2
    refine bodyPost_ret (v := .agg #[.slice none 0 0, .slice none 0 0, .string ⟨#[]⟩, .int .i64 1]) (by simp [results, Try.results16, go_sem, r0, r1, r2, r3]) rfl ⟨_, [], rfl, rfl, M.OwnT.nil _ _ _, ?_⟩
    exact (((B1.out.setCell (by simp) _).setCell (by simp) _).setCell (by simp) _).setCell (by simp) _
  rw [decide_eq_true hk] at CI
  obtain ⟨hk0, hk1⟩ := hk
  obtain ⟨k, rfl⟩ := Int.eq_ofNat_of_zero_le hk0
  have hkn : k < n := by omega
  obtain ⟨b, off, t, rfl, hfk, hat⟩ := HF.out.at hkn
  have HFK := M.hl hfk
  have hrt := M.tapeR_iff.1 ((M.tapesR_iff.1 hr).2 t (List.mem_of_getElem? hfk))
  have HR := M.hl hr
  obtain ⟨x, ss, y, z⟩ := t
  obtain ⟨⟨hx0, hx1⟩, -⟩ := hrt
  simp only at hx0 hx1
  obtain ⟨c0, -, -, c3⟩ := hat
  simp only at c0 c3
  have C0 : Hid (∀ W, Below w.heap.size w W → W.cell? ⟨b, off + k * 4, none⟩ = some (.int .i64 x)) := fun W hW => (hW.cell (p := ⟨b, off + k * 4, none⟩) (World.block_lt_of_cell? w _ c0)).trans c0
  have C3 : Hid (∀ W, Below w.heap.size w W → W.cell? ⟨b, off + k * 4 + 3, none⟩ = some (.int .i64 z)) := fun W hW => (hW.cell (p := ⟨b, off + k * 4 + 3, none⟩) (World.block_lt_of_cell? w _ c3)).trans c3
  have HBL : Hid (b < w.heap.size) := World.block_lt_of_cell? w _ c0
  clear hr hfk c0 c3 hk0 hk1
  by_cases hl : x = 1000000
  · have HE := M.hl (M.clear_last (by have := HN.out; omega) HR.out HFK.out hl)
    rw [HE.out]
    subst hl
    go_enter Try.func16, Try.ntmps16
    go_wp2_with fail
    refine (CR.out _).mono ?_
    rintro e w1 ⟨rfl, hb⟩
    have u0 := (hb.block w.heap.size (by simp)).trans (heap_alloc_new w (.cells #[.slice none 0 0, .slice none 0 0, .string ⟨#[]⟩, .int .i64 0] 36))
    have r0 := M.bk_cell u0 0 (.slice none 0 0) rfl
    have r1 := M.bk_cell u0 1 (.slice none 0 0) rfl
    have r2 := M.bk_cell u0 2 (.string ⟨#[]⟩) rfl
    have r3 := M.bk_cell u0 3 (.int .i64 0) rfl
    have fr := M.bk_free u0
    have B1 := M.hl (M.bxd_below hb)
    have q0 := C0.out w1 B1.out
    clear hb u0
    go_wp2_with fail
    refine (CI.out _).mono ?_
    rintro e w2 ⟨rfl, rfl⟩
    go_wp2
    refine bodyPost_ret (v := .agg #[.slice none 0 0, .slice none 0 0, .string ⟨#[]⟩, .int .i64 8]) (by simp [results, Try.results16, go_sem, r0, r1, r2, r3]) rfl ⟨_, [], rfl, rfl, M.OwnT.nil _ _ _, ?_⟩
    exact (((B1.out.setCell (by simp) _).setCell (by simp) _).setCell (by simp) _).setCell (by simp) _
  have HE := M.hl (M.clear_yes (by have := HN.out; omega) HR.out HFK.out hl)
  have dl : ((x : Int) == 1000000) = false := by rw [beq_eq_false_iff_ne]; exact hl
  clear hl
  go_enter Try.func16, Try.ntmps16
  go_wp2_with fail
  refine (CR.out _).mono ?_
  rintro e w1 ⟨rfl, hb⟩
  have U0 := M.hl ((hb.block w.heap.size (by simp)).trans (heap_alloc_new w (.cells #[.slice none 0 0, .slice none 0 0, .string ⟨#[]⟩, .int .i64 0] 36)))
  have B1 := M.hl (M.bxd_below hb)
  have q0 := C0.out w1 B1.out
  clear hb
  go_wp2_with fail
  refine (CI.out _).mono ?_
  rintro e w2 ⟨rfl, rfl⟩
  go_wp2_with fail
  refine (iEachC_any w1 (some ⟨b, off, none⟩) n c ts (HF.out.below B1.out) HSM.out HL.out).mono ?_
  rintro e w3 ⟨v, qs, rfl, hq, hO, hb⟩
  have hql : qs.length = n := by rw [HN.out, ← hq, List.length_map]
  obtain ⟨g, vc, rfl⟩ : ∃ g vc, v = .slice (some ⟨g, 0, none⟩) n vc := by
    obtain ⟨⟨-, ⟨-, h0⟩ | ⟨g, cap, cur, e, -⟩⟩, -, -, -⟩ := hO
    · omega
    · rw [hql] at e; exact ⟨g, cap, e⟩
  have HO := M.hl hO
  have HQ := M.hl hq
  have B3 := M.hl (M.sl B1.out hb)
  have hz1 : w.heap.size < w1.heap.size := (Array.getElem?_eq_some_iff.1 U0.out).1
  have U3 := M.hl ((hb.block _ hz1).trans U0.out)
  have BA : Hid (∀ o, Below w.heap.size w (w3.alloc o)) := fun o => B3.out.alloc B3.out.size _
  clear hb hO hq q0
  obtain ⟨W4, hW4⟩ : ∃ W4, W4 = w3.alloc (.cells #[.slice (some ⟨g, 0, none⟩) n vc, .slice none 0 0, .string ⟨#[]⟩, .int .i64 0] 36) := ⟨_, rfl⟩
  have E4 : Hid (W4.heap[w3.heap.size]? = some (.cells #[.slice (some ⟨g, 0, none⟩) n vc, .slice none 0 0, .string ⟨#[]⟩, .int .i64 0] 36 (0, 0))) := by rw [hW4]; exact heap_alloc_new _ _
  have U4 : Hid (W4.heap[w.heap.size]? = some (.cells #[.slice none 0 0, .slice none 0 0, .string ⟨#[]⟩, .int .i64 0] 36 (0, 0))) := by rw [hW4]; exact (heap_alloc_old _ _ (Array.getElem?_eq_some_iff.1 U3.out).1).trans U3.out
  have B4 : Hid (Below w.heap.size w W4) := by rw [hW4]; exact BA.out _
  have O4 : Hid (M.OwnT W4 w1.heap.size w3.heap.size (.slice (some ⟨g, 0, none⟩) n vc) qs) := by rw [hW4]; exact HO.out.below ((Below.refl _ _).alloc (Nat.le_refl _) _)
  have HW4 := M.hl hW4
  have ZW4 : Hid (W4.heap.size = w3.heap.size + 1) := by rw [hW4]; show _ = _; simp
  clear hW4 BA HO U0 U3
  obtain ⟨-, hgb, hnc, -, hR4, hP4⟩ := O4.out.place
  have hqk : ∃ u, qs[k]? = some (⟨x, ss, y, z⟩, u) := by
    have h1 : (qs.map Prod.fst)[k]? = some ⟨x, ss, y, z⟩ := by rw [HQ.out]; exact HFK.out
    rw [List.getElem?_map] at h1
    cases hq : qs[k]? with
    | none => rw [hq] at h1; cases h1
    | some p => rw [hq] at h1; exact ⟨p.2, by rw [← Option.some.inj h1]⟩
  obtain ⟨u, hqk⟩ := hqk
  have HQK := M.hl hqk
  obtain ⟨g0, g1, g2, g3⟩ := hP4 k _ hqk
  simp only at g0 g1 g2 g3
  have fg := hR4.free
  have hgt : g < w3.heap.size := O4.out.top g rfl
  have HGB := M.hl hgb
  have q0 := C0.out W4 B4.out
  have q3 := C3.out W4 B4.out
  have e0 := M.bk_cell E4.out 0 (.slice (some ⟨g, 0, none⟩) n vc) rfl
  have hwx : IntKind.i64.wrap (x + 1) = x + 1 := by rw [IntKind.wrap_i64]; omega
  clear hqk hP4 hR4 hnc hgb
  go_wp2_with fail
  rw [← HW4.out]
  go_region_with (fail)
  all_goals
    obtain ⟨W5, hW5⟩ : ∃ W5, W5 = ((((W4.setCell ⟨g, k * 4, none⟩ (.int .i64 (x + 1))).setCell ⟨g, k * 4 + 1, none⟩ (.slice none 0 0)).setCell ⟨g, k * 4 + 2, none⟩ (.int .i64 0)).setCell ⟨g, k * 4 + 3, none⟩ (.int .i64 z)).drew := ⟨_, rfl⟩
    have O5 := M.hl ((O4.out.clr HQK.out (x + 1) z).below (Below.refl _ _).drew)
    have E5 : Hid (W5.heap[w3.heap.size]? = some (.cells #[.slice (some ⟨g, 0, none⟩) n vc, .slice none 0 0, .string ⟨#[]⟩, .int .i64 0] 36 (0, 0))) := by
      rw [hW5]; exact (M.setfr (by omega)).trans ((M.setfr (by omega)).trans ((M.setfr (by omega)).trans ((M.setfr (by omega)).trans E4.out)))
    have U5 : Hid (W5.heap[w.heap.size]? = some (.cells #[.slice none 0 0, .slice none 0 0, .string ⟨#[]⟩, .int .i64 0] 36 (0, 0))) := by
      have := HGB.out
      rw [hW5]; exact (M.setfr (by omega)).trans ((M.setfr (by omega)).trans ((M.setfr (by omega)).trans ((M.setfr (by omega)).trans U4.out)))
    have B5 : Hid (Below w.heap.size w W5) := by
      have := HGB.out
      rw [hW5]; exact ((((B4.out.setCell (by simp; omega) _).setCell (by simp; omega) _).setCell (by simp; omega) _).setCell (by simp; omega) _).trans (Below.refl _ _).drew
    rw [← hW5] at O5
    rw [← hW5]
    have HZ1 := M.hl hz1
    clear hW5 O4 E4 U4 B4 g0 g1 g2 g3 fg q0 q3 e0
    have e0 := M.bk_cell E5.out 0 (.slice (some ⟨g, 0, none⟩) n vc) rfl
    have e1 := M.bk_cell E5.out 1 (.slice none 0 0) rfl
    have e2 := M.bk_cell E5.out 2 (.string ⟨#[]⟩) rfl
    have e3 := M.bk_cell E5.out 3 (.int .i64 0) rfl
    have r0 := M.bk_cell U5.out 0 (.slice none 0 0) rfl
    have r1 := M.bk_cell U5.out 1 (.slice none 0 0) rfl
    have r2 := M.bk_cell U5.out 2 (.string ⟨#[]⟩) rfl
    have r3 := M.bk_cell U5.out 3 (.int .i64 0) rfl
    have fr := M.bk_free U5.out
    have hne : ¬ (w.heap.size = w3.heap.size) := by have := B3.out.size; have := HGB.out; omega
    go_wp2
    refine bodyPost_ret (v := .agg #[.slice (some ⟨g, 0, none⟩) n vc, .slice none 0 0, .string ⟨#[]⟩, .int .i64 0]) (by simp [results, Try.results16, go_sem, r0, r1, r2, r3]) rfl ?_
    rw [HE.out]
    refine ⟨_, _, rfl, ?_, (O5.out.mid (((((M.Mid.refl w.heap.size (w.heap.size + 1) W5).setCell (Nat.le_refl _) (by omega) 0 (.slice (some ⟨g, 0, none⟩) n vc)).setCell (Nat.le_refl _) (by omega) 1 (.slice none 0 0)).setCell (Nat.le_refl _) (by omega) 2 (.string ⟨#[]⟩)).setCell (Nat.le_refl _) (by omega) 3 (.int .i64 0)) (.inr (by have := HZ1.out; omega))).widen (by have := HZ1.out; omega) (by have := (Array.getElem?_eq_some_iff.1 E5.out).1; simp [World.setCell]; omega), (((B5.out.setCell (by simp) _).setCell (by simp) _).setCell (by simp) _).setCell (by simp) _⟩
    rw [List.map_append, List.map_cons, List.map_take, List.map_drop, HQ.out]
end Go.Proofs.Ytmeblchkccmkcab
