/-
  What TapeClear of the specification does.
-/
import Derived.Test.YtmeblchkccmkcabIClear
import Derived.Test.YtmeblchkccmkcabSTapesR
namespace Go.Proofs.Ytmeblchkccmkcab
open Go.RowKit

set_option maxRecDepth 100000 in
set_option maxHeartbeats 3200000 in
theorem sClear_any (w : World) (ad : Addr) (n c : Nat) (ts : List M.TapeD) (k : Int) (h : M.Tps w (some ad) n c ts) (hok : ∀ t ∈ ts, M.tok t) (hl : n + M.tln ts ≤ 1048576) :
    Calls Try.prog 15 #[.slice (some ad) n c, .int .i64 k] w fun e w' => ∃ (v : Value) (qs : List (M.TapeD × Value)), e = .returned (.agg #[v, .slice none 0 0, .string ⟨#[]⟩, .int .i64 (M.clearO ts k).2]) ∧ qs.map Prod.fst = (M.clearO ts k).1 ∧ M.OwnT w' w.heap.size w'.heap.size v qs ∧ Below w.heap.size w w' := by
  have HF := M.hl h
  have HN : Hid (n = ts.length) := h.1
  have hnl : n ≤ 1048576 := by omega
  have HL := M.hl hl
  have BO : Hid (∀ o, Below w.heap.size w (w.alloc o)) := fun o => (Below.refl _ _).alloc (Nat.le_refl _) _
  have CR : Hid (∀ o, Calls Try.prog 22 #[.slice (some ad) n c] (w.alloc o) fun e w' => e = .returned (.bool (M.tapesR ts)) ∧ Below (w.alloc o).heap.size (w.alloc o) w') := fun o => sTapesR_any _ (some ad) n c ts (h.below (BO.out o)) hok
  have HOK := M.hl hok
  clear h hok hl
  by_cases h4 : 400 < n
  · have HE := M.hl (M.clear_long (ts := ts) (k := k) (by have := HN.out; omega))
    rw [HE.out]
    go_enter Try.func15, Try.ntmps15
    go_wp2
    refine bodyPost_ret (v := .agg #[.slice none 0 0, .slice none 0 0, .string ⟨#[]⟩, .int .i64 2]) (by simp [results, Try.results15, go_sem]) rfl ⟨_, [], rfl, rfl, M.OwnT.nil _ _ _, ?_⟩
    exact BO.out _
  have h4' : decide (400 < (n : Int)) = false := decide_eq_false (by omega)
  cases hr : M.tapesR ts
  · have HE := M.hl (M.clear_no (ts := ts) (k := k) (by have := HN.out; omega) (fun h => by rw [hr] at h; cases h.1))
    rw [HE.out]
    rw [hr] at CR
    clear hr
    go_enter Try.func15, Try.ntmps15
    go_wp2_with fail
    refine (CR.out _).mono ?_
    rintro e w1 ⟨rfl, hb⟩
    have u0 := (hb.block w.heap.size (by simp)).trans (heap_alloc_new w (.cells #[.slice none 0 0, .slice none 0 0, .string ⟨#[]⟩, .int .i64 0] 36))
    have r0 := M.bk_cell u0 0 (.slice none 0 0) rfl
    have r1 := M.bk_cell u0 1 (.slice none 0 0) rfl
    have r2 := M.bk_cell u0 2 (.string ⟨#[]⟩) rfl
    have r3 := M.bk_cell u0 3 (.int .i64 0) rfl
    have fr := M.bk_free u0
    have B1 := M.hl (M.bxd_below hb)
    clear hb u0
    go_wp2
    refine bodyPost_ret (v := .agg #[.slice none 0 0, .slice none 0 0, .string ⟨#[]⟩, .int .i64 1]) (by simp [results, Try.results15, go_sem, r0, r1, r2, r3]) rfl ⟨_, [], rfl, rfl, M.OwnT.nil _ _ _, ?_⟩
    exact (((B1.out.setCell (by simp) _).setCell (by simp) _).setCell (by simp) _).setCell (by simp) _
  rw [hr] at CR
  by_cases hk : 0 ≤ k ∧ k < (n : Int)
  case neg =>
    have HE := M.hl (M.clear_no (ts := ts) (k := k) (by have := HN.out; omega) (fun h => hk (by rw [HN.out]; exact h.2)))
    rw [HE.out]
    have hd : decide (k < 0) = true ∨ decide (k < 0) = false ∧ decide ((n : Int) ≤ k) = true := by
      by_cases e : k < 0
      · exact .inl (decide_eq_true e)
      · exact .inr ⟨decide_eq_false e, decide_eq_true (by omega)⟩
    clear hr hk
    rcases hd with d1 | ⟨d1, d2⟩
    all_goals
      go_enter Try.func15, Try.ntmps15
      go_wp2_with fail
      refine (CR.out _).mono ?_
      rintro e w1 ⟨rfl, hb⟩
      have u0 := (hb.block w.heap.size (by simp)).trans (heap_alloc_new w (.cells #[.slice none 0 0, .slice none 0 0, .string ⟨#[]⟩, .int .i64 0] 36))
      have r0 := M.bk_cell u0 0 (.slice none 0 0) rfl
      have r1 := M.bk_cell u0 1 (.slice none 0 0) rfl
      have r2 := M.bk_cell u0 2 (.string ⟨#[]⟩) rfl
      have r3 := M.bk_cell u0 3 (.int .i64 0) rfl
      have fr := M.bk_free u0
      have B1 := M.hl (M.bxd_below hb)
      clear hb u0
      go_wp2
      refine bodyPost_ret (v := .agg #[.slice none 0 0, .slice none 0 0, .string ⟨#[]⟩, .int .i64 1]) (by simp [results, Try.results15, go_sem, r0, r1, r2, r3]) rfl ⟨_, [], rfl, rfl, M.OwnT.nil _ _ _, ?_⟩
      exact (((B1.out.setCell (by simp) _).setCell (by simp) _).setCell (by simp) _).setCell (by simp) _
  obtain ⟨hk0, hk1⟩ := hk
  obtain ⟨k, rfl⟩ := Int.eq_ofNat_of_zero_le hk0
  have hkn : k < n := by omega
  have dk0 : decide ((k : Int) < 0) = false := decide_eq_false (by omega)
  have dk1 : decide ((n : Int) ≤ (k : Int)) = false := decide_eq_false (by omega)
  have dk2 : decide (n ≤ k) = false := decide_eq_false (by omega)
  obtain ⟨b, off, t, hadd, hfk, hat⟩ := HF.out.at hkn
  cases hadd
  have HFK := M.hl hfk
  have hrt := M.tapeR_iff.1 ((M.tapesR_iff.1 hr).2 t (List.mem_of_getElem? hfk))
  have HR := M.hl hr
  obtain ⟨x, ss, y, z⟩ := t
  obtain ⟨⟨hx0, hx1⟩, -⟩ := hrt
  simp only at hx0 hx1
  obtain ⟨c0, -, -, c3⟩ := hat
  simp only at c0 c3
  have C0 : Hid (∀ W, Below w.heap.size w W → W.cell? ⟨b, off + k * 4, none⟩ = some (.int .i64 x)) := fun W hW => (hW.cell (p := ⟨b, off + k * 4, none⟩) (World.block_lt_of_cell? w _ c0)).trans c0
  have C3 : Hid (∀ W, Below w.heap.size w W → W.cell? ⟨b, off + k * 4 + 3, none⟩ = some (.int .i64 z)) := fun W hW => (hW.cell (p := ⟨b, off + k * 4 + 3, none⟩) (World.block_lt_of_cell? w _ c3)).trans c3
  have HBL : Hid (b < w.heap.size) := World.block_lt_of_cell? w _ c0
  clear hr hfk c0 c3 hk0 hk1
  by_cases hl : x = 1000000
  · have HE := M.hl (M.clear_last (by have := HN.out; omega) HR.out HFK.out hl)
    rw [HE.out]
    subst hl
    go_enter Try.func15, Try.ntmps15
    go_wp2_with fail
    refine (CR.out _).mono ?_
    rintro e w1 ⟨rfl, hb⟩
    have u0 := (hb.block w.heap.size (by simp)).trans (heap_alloc_new w (.cells #[.slice none 0 0, .slice none 0 0, .string ⟨#[]⟩, .int .i64 0] 36))
    have r0 := M.bk_cell u0 0 (.slice none 0 0) rfl
    have r1 := M.bk_cell u0 1 (.slice none 0 0) rfl
    have r2 := M.bk_cell u0 2 (.string ⟨#[]⟩) rfl
    have r3 := M.bk_cell u0 3 (.int .i64 0) rfl
    have fr := M.bk_free u0
    have B1 := M.hl (M.bxd_below hb)
    have q0 := C0.out w1 B1.out
    clear hb u0
    go_wp2
    refine bodyPost_ret (v := .agg #[.slice none 0 0, .slice none 0 0, .string ⟨#[]⟩, .int .i64 8]) (by simp [results, Try.results15, go_sem, r0, r1, r2, r3]) rfl ⟨_, [], rfl, rfl, M.OwnT.nil _ _ _, ?_⟩
    exact (((B1.out.setCell (by simp) _).setCell (by simp) _).setCell (by simp) _).setCell (by simp) _
  have HE := M.hl (M.clear_yes (by have := HN.out; omega) HR.out HFK.out hl)
  have dl : ((x : Int) == 1000000) = false := by rw [beq_eq_false_iff_ne]; exact hl
  clear hl
  go_enter Try.func15, Try.ntmps15
  go_wp2_with fail
  refine (CR.out _).mono ?_
  rintro e w1 ⟨rfl, hb⟩
  have U0 := M.hl ((hb.block w.heap.size (by simp)).trans (heap_alloc_new w (.cells #[.slice none 0 0, .slice none 0 0, .string ⟨#[]⟩, .int .i64 0] 36)))
  have B1 := M.hl (M.bxd_below hb)
  have q0 := C0.out w1 B1.out
  clear hb
  go_wp2_with fail
  refine (sCopyTp_any w1 ⟨b, off, none⟩ n c ts (HF.out.below B1.out) HL.out).mono ?_
  rintro e w3 ⟨v, qs, rfl, hq, hO, hb⟩
  have hql : qs.length = n := by rw [HN.out, ← hq, List.length_map]
  obtain ⟨g, vc, rfl⟩ : ∃ g vc, v = .slice (some ⟨g, 0, none⟩) n vc := by
    obtain ⟨⟨-, ⟨-, h0⟩ | ⟨g, cap, cur, e, -⟩⟩, -, -, -⟩ := hO
    · omega
    · rw [hql] at e; exact ⟨g, cap, e⟩
  have HO := M.hl hO
  have HQ := M.hl hq
  have B3 := M.hl (M.sl B1.out hb)
  have hz1 : w.heap.size < w1.heap.size := (Array.getElem?_eq_some_iff.1 U0.out).1
  have U3 := M.hl ((hb.block _ hz1).trans U0.out)
  clear hb hO hq q0
  have B4 := M.hl B3.out
  have O4 := M.hl HO.out
  have U4 := M.hl U3.out
  clear U0 U3 HO
  obtain ⟨-, hgb, hnc, -, hR4, hP4⟩ := O4.out.place
  have hqk : ∃ u, qs[k]? = some (⟨x, ss, y, z⟩, u) := by
    have h1 : (qs.map Prod.fst)[k]? = some ⟨x, ss, y, z⟩ := by rw [HQ.out]; exact HFK.out
    rw [List.getElem?_map] at h1
    cases hq : qs[k]? with
    | none => rw [hq] at h1; cases h1
    | some p => rw [hq] at h1; exact ⟨p.2, by rw [← Option.some.inj h1]⟩
  obtain ⟨u, hqk⟩ := hqk
  have HQK := M.hl hqk
  obtain ⟨g0, g1, g2, g3⟩ := hP4 k _ hqk
  simp only at g0 g1 g2 g3
  have fg := hR4.free
  have hgt : g < w3.heap.size := O4.out.top g rfl
  have HGB := M.hl hgb
  have q0 := C0.out w3 B4.out
  have q3 := C3.out w3 B4.out
  have hwx : IntKind.i64.wrap (x + 1) = x + 1 := by rw [IntKind.wrap_i64]; omega
  clear hqk hP4 hR4 hnc hgb
  go_wp2_with fail
  go_region_with (fail)
  all_goals
    obtain ⟨W5, hW5⟩ : ∃ W5, W5 = ((((w3.setCell ⟨g, k * 4, none⟩ (.int .i64 (x + 1))).setCell ⟨g, k * 4 + 1, none⟩ (.slice none 0 0)).setCell ⟨g, k * 4 + 2, none⟩ (.int .i64 0)).setCell ⟨g, k * 4 + 3, none⟩ (.int .i64 z)).drew := ⟨_, rfl⟩
    have O5 := M.hl ((O4.out.clr HQK.out (x + 1) z).below (Below.refl _ _).drew)
    have U5 : Hid (W5.heap[w.heap.size]? = some (.cells #[.slice none 0 0, .slice none 0 0, .string ⟨#[]⟩, .int .i64 0] 36 (0, 0))) := by
      have := HGB.out
      rw [hW5]; exact (M.setfr (by omega)).trans ((M.setfr (by omega)).trans ((M.setfr (by omega)).trans ((M.setfr (by omega)).trans U4.out)))
    have B5 : Hid (Below w.heap.size w W5) := by
      have := HGB.out
      rw [hW5]; exact ((((B4.out.setCell (by simp; omega) _).setCell (by simp; omega) _).setCell (by simp; omega) _).setCell (by simp; omega) _).trans (Below.refl _ _).drew
    have HZ5 : Hid (w3.heap.size ≤ W5.heap.size) := by rw [hW5]; show _ ≤ _; simp [World.setCell]
    rw [← hW5] at O5
    rw [← hW5]
    have HZ1 := M.hl hz1
    clear hW5 O4 U4 B4 g0 g1 g2 g3 fg q0 q3
    have r0 := M.bk_cell U5.out 0 (.slice none 0 0) rfl
    have r1 := M.bk_cell U5.out 1 (.slice none 0 0) rfl
    have r2 := M.bk_cell U5.out 2 (.string ⟨#[]⟩) rfl
    have r3 := M.bk_cell U5.out 3 (.int .i64 0) rfl
    have fr := M.bk_free U5.out
    go_wp2
    refine bodyPost_ret (v := .agg #[.slice (some ⟨g, 0, none⟩) n vc, .slice none 0 0, .string ⟨#[]⟩, .int .i64 0]) (by simp [results, Try.results15, go_sem, r0, r1, r2, r3]) rfl ?_
    rw [HE.out]
    refine ⟨_, _, rfl, ?_, (O5.out.mid (((((M.Mid.refl w.heap.size (w.heap.size + 1) W5).setCell (Nat.le_refl _) (by omega) 0 (.slice (some ⟨g, 0, none⟩) n vc)).setCell (Nat.le_refl _) (by omega) 1 (.slice none 0 0)).setCell (Nat.le_refl _) (by omega) 2 (.string ⟨#[]⟩)).setCell (Nat.le_refl _) (by omega) 3 (.int .i64 0)) (.inr (by have := HZ1.out; omega))).widen (by have := HZ1.out; omega) (by have := HZ5.out; simp [World.setCell]; omega), (((B5.out.setCell (by simp) _).setCell (by simp) _).setCell (by simp) _).setCell (by simp) _⟩
    rw [List.map_append, List.map_cons, List.map_take, List.map_drop, HQ.out]
end Go.Proofs.Ytmeblchkccmkcab
