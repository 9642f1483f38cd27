/-
  What TapesWrite of the specification does.
-/
import Derived.Test.YtappficbjjkmiaaSTWrite
import Derived.Test.YtappficbjjkmiaaPart14
namespace Go.Proofs.Ytappficbjjkmiaa
open Go.RowKit

theorem M.OwnT.box {w : World} {lo hi : Nat} {v : Value} {qs : List (M.TapeD × Value)} (h : M.OwnT w lo hi v qs) (hh : hi ≤ w.heap.size) {B : Nat} {c : Array Value} {T : TypeId} {fr : Nat × Nat} (hB : w.heap[B]? = some (.cells c T fr)) (h1 : T ≠ 36) (h3 : T ≠ 9) (j : Nat) (u : Value) : M.OwnT (w.setCell ⟨B, j, none⟩ u) lo (w.setCell ⟨B, j, none⟩ u).heap.size v qs := by
  have hsz : (w.setCell ⟨B, j, none⟩ u).heap.size = w.heap.size := by simp [World.setCell]
  rw [hsz]
  refine (h.widen (Nat.le_refl _) hh).grown (u := .slice (some ⟨B, 0, none⟩) 0 0) (fun b hb => ?_) (M.grp1 (World.grownBy.refl w (some B)))
  obtain rfl := Option.some.inj hb
  exact ⟨M.row_notType h.row hB h1, fun p hp => M.row_notType (h.each p hp).1 hB h3⟩
theorem M.ownT4 {w : World} {lo : Nat} {v : Value} {qs : List (M.TapeD × Value)} (h : M.OwnT w lo w.heap.size v qs) {B : Nat} {c : Array Value} {T : TypeId} {fr : Nat × Nat} (hB : w.heap[B]? = some (.cells c T fr)) (h1 : T ≠ 36) (h3 : T ≠ 9) (v0 v1 v2 v3 : Value) : M.OwnT ((((w.setCell ⟨B, 0, none⟩ v0).setCell ⟨B, 1, none⟩ v1).setCell ⟨B, 2, none⟩ v2).setCell ⟨B, 3, none⟩ v3) lo ((((w.setCell ⟨B, 0, none⟩ v0).setCell ⟨B, 1, none⟩ v1).setCell ⟨B, 2, none⟩ v2).setCell ⟨B, 3, none⟩ v3).heap.size v qs := by
  obtain ⟨c1, e1⟩ := M.cells_set hB 0 v0
  obtain ⟨c2, e2⟩ := M.cells_set e1 1 v1
  obtain ⟨c3, e3⟩ := M.cells_set e2 2 v2
  exact (((h.box (Nat.le_refl _) hB h1 h3 0 v0).box (Nat.le_refl _) e1 h1 h3 1 v1).box (Nat.le_refl _) e2 h1 h3 2 v2).box (Nat.le_refl _) e3 h1 h3 3 v3
theorem M.ownPt4 {w : World} {lo : Nat} {v : Value} {ps : List M.PartD} (h : M.OwnPt w lo v ps) {B : Nat} {c : Array Value} {T : TypeId} {fr : Nat × Nat} (hB : w.heap[B]? = some (.cells c T fr)) (h1 : T ≠ 47) (v0 v1 v2 v3 : Value) : M.OwnPt ((((w.setCell ⟨B, 0, none⟩ v0).setCell ⟨B, 1, none⟩ v1).setCell ⟨B, 2, none⟩ v2).setCell ⟨B, 3, none⟩ v3) lo v ps := by
  have hne := M.row_notType h hB h1
  have hset : ∀ (W : World) j (u : Value) b, v.ownBlock = some b → (W.setCell ⟨B, j, none⟩ u).heap[b]? = W.heap[b]? := fun W j u b hb => M.setfr (fun e => hne (by rw [e]; exact hb))
  exact h.keptAt fun b hb _ => by rw [hset _ _ _ _ hb, hset _ _ _ _ hb, hset _ _ _ _ hb, hset _ _ _ _ hb]
set_option maxRecDepth 100000 in
set_option maxHeartbeats 1600000 in
theorem sTWrite_any (w : World) (a : Option Addr) (n c : Nat) (ts : List M.TapeD) (a1 : Option Addr) (m c1 : Nat) (zs : List Int) (s : ByteArray) (ok : Bool) (h : M.Tps w a n c ts) (hok : ∀ t ∈ ts, M.tok t) (hl : n + M.tln ts ≤ 1048576)
    (h' : M.NV w a1 m zs) (hc1 : m ≤ c1) (hs : s.size ≤ 1048576) (hu : ok = true ↔ M.useP n zs) :
    Calls Try.prog 11 #[.slice a n c, .slice a1 m c1, .string s] w fun e w' => M.TwVal ok ts zs s w e w' := by
  have HF := M.hl h
  have HN : Hid (n = ts.length) := h.1
  have HM : Hid (m = zs.length) := h'.1
  have HL := M.hl hl
  have HU := M.hl hu
  have HZ := M.hl h'
  have BO : Hid (∀ o, Below w.heap.size w (w.alloc o)) := fun o => (Below.refl _ _).alloc (Nat.le_refl _) _
  have CR : Hid (∀ o, Calls Try.prog 20 #[.slice a n c] (w.alloc o) fun e w' => e = .returned (.bool (M.tapesR ts)) ∧ Below (w.alloc o).heap.size (w.alloc o) w') := fun o => sTapesR_any _ a n c ts (h.below (BO.out o)) hok
  have NO : Hid (∀ (W : World) (k : Int), M.tw ok ts zs s = ([], [], k) → Below w.heap.size w W → M.TwVal ok ts zs s w (.returned (.agg #[.slice none 0 0, .slice none 0 0, .string ⟨#[]⟩, .int .i64 k])) W) := fun W k hk hb => M.TwVal.no hk hb
  clear h hok hl hu h'
  by_cases h4 : 400 < n ∨ 400 < m ∨ 20000 < s.size
  · have HE := M.hl (M.tw_long (ok := ok) (ts := ts) (zs := zs) (s := s) (by have := HN.out; have := HM.out; omega))
    have fin : ∀ W, Below w.heap.size w W → _ := fun W hb => NO.out W 2 HE.out hb
    have FIN := M.hl fin
    clear fin
    rcases Nat.lt_or_ge 400 n with e | e
    · go_enter Try.func11, Try.ntmps11
      go_wp2
      refine bodyPost_ret (v := .agg #[.slice none 0 0, .slice none 0 0, .string ⟨#[]⟩, .int .i64 2]) (by simp [results, Try.results11, go_sem]) rfl (FIN.out _ (BO.out _))
    rcases Nat.lt_or_ge 400 m with e2 | e2
    · go_enter Try.func11, Try.ntmps11
      go_wp2
      refine bodyPost_ret (v := .agg #[.slice none 0 0, .slice none 0 0, .string ⟨#[]⟩, .int .i64 2]) (by simp [results, Try.results11, go_sem]) rfl (FIN.out _ (BO.out _))
    · have e3 : 20000 < s.size := by omega
      go_enter Try.func11, Try.ntmps11
      go_wp2
      refine bodyPost_ret (v := .agg #[.slice none 0 0, .slice none 0 0, .string ⟨#[]⟩, .int .i64 2]) (by simp [results, Try.results11, go_sem]) rfl (FIN.out _ (BO.out _))
  have HNO : Hid (¬ (400 < ts.length ∨ 400 < zs.length ∨ 20000 < s.size)) := by show ¬ _; have := HN.out; have := HM.out; omega
  have e1 : n ≤ 400 := by omega
  have e2 : m ≤ 400 := by omega
  have e3 : s.size ≤ 20000 := by omega
  clear h4
  cases hr : M.tapesR ts
  · have HE := M.hl (M.tw_no (ok := ok) HNO.out (by rw [hr]; rfl))
    rw [hr] at CR
    clear hr
    go_enter Try.func11, Try.ntmps11
    go_wp2_with fail
    refine (CR.out _).mono ?_
    rintro e w1 ⟨rfl, hb⟩
    have u0 := (hb.block w.heap.size (by simp)).trans (heap_alloc_new w (.cells #[.slice none 0 0, .slice none 0 0, .string ⟨#[]⟩, .int .i64 0] 29))
    have r0 := M.bk_cell u0 0 (.slice none 0 0) rfl
    have r1 := M.bk_cell u0 1 (.slice none 0 0) rfl
    have r2 := M.bk_cell u0 2 (.string ⟨#[]⟩) rfl
    have r3 := M.bk_cell u0 3 (.int .i64 0) rfl
    have fr := M.bk_free u0
    have B1 := M.hl (M.bxd_below hb)
    clear hb u0
    go_wp2
    refine bodyPost_ret (v := .agg #[.slice none 0 0, .slice none 0 0, .string ⟨#[]⟩, .int .i64 1]) (by simp [results, Try.results11, go_sem, r0, r1, r2, r3]) rfl (NO.out _ 1 HE.out ?_)
    exact (((B1.out.setCell (by simp) _).setCell (by simp) _).setCell (by simp) _).setCell (by simp) _
  have HT := M.hl (M.tapesR_iff.1 hr)
  rw [hr] at CR
  cases hk : ok
  · have HE := M.hl (M.tw_no (ok := ok) HNO.out (by rw [hr, hk]; rfl))
    have HUF : Hid (∀ v : Bool, (v = true ↔ M.useP n zs) → v = false) := fun v hv => by
      cases v
      · rfl
      · have := HU.out.2 (hv.1 rfl); rw [hk] at this; cases this
    subst hk
    clear hr
    go_enter Try.func11, Try.ntmps11
    go_wp2_with fail
    refine (CR.out _).mono ?_
    rintro e w1 ⟨rfl, hb⟩
    have U0 := M.hl ((hb.block w.heap.size (by simp)).trans (heap_alloc_new w (.cells #[.slice none 0 0, .slice none 0 0, .string ⟨#[]⟩, .int .i64 0] 29)))
    have B1 := M.hl (M.bxd_below hb)
    clear hb
    go_wp2_with fail
    refine (sUse_any w1 a n c a1 m c1 zs (M.nvS HZ.out B1.out) (by omega) hc1).mono ?_
    rintro e w1' ⟨v, rfl, hv, hb⟩
    obtain rfl := HUF.out v hv
    have u0 := M.keepO U0.out hb
    have r0 := M.bk_cell u0 0 (.slice none 0 0) rfl
    have r1 := M.bk_cell u0 1 (.slice none 0 0) rfl
    have r2 := M.bk_cell u0 2 (.string ⟨#[]⟩) rfl
    have r3 := M.bk_cell u0 3 (.int .i64 0) rfl
    have fr := M.bk_free u0
    have B1 := M.hl (M.sl B1.out hb)
    clear hv hb u0
    go_wp2
    refine bodyPost_ret (v := .agg #[.slice none 0 0, .slice none 0 0, .string ⟨#[]⟩, .int .i64 1]) (by simp [results, Try.results11, go_sem, r0, r1, r2, r3]) rfl (NO.out _ 1 HE.out ?_)
    exact (((B1.out.setCell (by simp) _).setCell (by simp) _).setCell (by simp) _).setCell (by simp) _
  have HUT : Hid (∀ v : Bool, (v = true ↔ M.useP n zs) → v = true) := fun v hv => hv.2 (HU.out.1 hk)
  have HUP : Hid (M.useP n zs) := HU.out.1 hk
  have HOK2 : Hid ((M.tapesR ts && ok) = true) := by show _ = _; rw [hr, hk]; rfl
  subst hk
  clear hr
  go_enter Try.func11, Try.ntmps11
  go_wp2_with fail
  refine (CR.out _).mono ?_
  rintro e w1 ⟨rfl, hb⟩
  have U0 := M.hl ((hb.block w.heap.size (by simp)).trans (heap_alloc_new w (.cells #[.slice none 0 0, .slice none 0 0, .string ⟨#[]⟩, .int .i64 0] 29)))
  have B1 := M.hl (M.bxd_below hb)
  clear hb
  go_wp2_with fail
  refine (sUse_any w1 a n c a1 m c1 zs (M.nvS HZ.out B1.out) (by omega) hc1).mono ?_
  rintro e w1' ⟨v, rfl, hv, hb⟩
  obtain rfl := HUT.out v hv
  have U1 := M.hl (M.keepO U0.out hb)
  have B2 := M.hl (M.sl B1.out hb)
  obtain ⟨ad, rfl⟩ : ∃ ad, a = some ad := by
    obtain ⟨-, -, -, h4⟩ := HF.out
    obtain ⟨b, off, e, -⟩ := h4 (by have := HT.out.1; have := HN.out; omega)
    exact ⟨_, e⟩
  clear hv hb U0
  go_wp2_with fail
  refine (sWr_any w1' ad n c ts a1 m c1 zs s (HF.out.below B2.out) HL.out (M.nvS HZ.out B2.out) e2 e3 HT.out HUP.out).mono ?_
  rintro e w5 ⟨va, vc, pa, pn, pc, qs, rfl, hq, hO, hP, hb⟩
  have U5 := M.hl (M.keepO U1.out hb)
  have B5 := M.hl (M.sl B2.out hb)
  obtain ⟨X, hX⟩ : ∃ X, X = M.wr ⟨ts, [], M.tbl s ((s.size + 63) / 64)⟩ zs := ⟨_, rfl⟩
  rw [← hX] at hq hP
  rw [← hX]
  have HX := M.hl hX
  have HQ := M.hl hq
  have HO := M.hl (hO.widen (lo' := w.heap.size) B2.out.size (Nat.le_refl _))
  have HP := M.hl (hP.down (b' := w.heap.size) B2.out.size)
  have r0 := M.bk_cell U5.out 0 (.slice none 0 0) rfl
  have r1 := M.bk_cell U5.out 1 (.slice none 0 0) rfl
  have r2 := M.bk_cell U5.out 2 (.string ⟨#[]⟩) rfl
  have r3 := M.bk_cell U5.out 3 (.int .i64 0) rfl
  have fr := M.bk_free U5.out
  clear hX hq hO hP hb U1
  by_cases hz : X.bs = []
  · have HE := M.hl (M.tw_yes HNO.out HOK2.out HX.out.symm hz)
    have dz : decide (X.bs = []) = true := decide_eq_true hz
    have dz2 := M.hl dz
    rw [dz]
    clear hz dz
    go_wp2
    refine bodyPost_ret (v := .agg #[.slice va n vc, .slice pa pn pc, .string ⟨#[]⟩, .int .i64 0]) (by simp [results, Try.results11, go_sem, r0, r1, r2, r3]) rfl (M.TwVal.mk HE.out HQ.out ?_ ?_ ?_)
    · exact M.ownT4 HO.out U5.out (by decide) (by decide) _ _ _ _
    · exact M.ownPt4 HP.out U5.out (by decide) _ _ _ _
    · exact (((B5.out.setCell (Nat.le_refl _) _).setCell (Nat.le_refl _) _).setCell (Nat.le_refl _) _).setCell (Nat.le_refl _) _
  · have HE := M.hl (M.tw_full HNO.out HOK2.out HX.out.symm hz)
    have dz : decide (X.bs = []) = false := decide_eq_false hz
    rw [dz]
    clear hz dz
    go_wp2
    refine bodyPost_ret (v := .agg #[.slice none 0 0, .slice none 0 0, .string ⟨#[]⟩, .int .i64 9]) (by simp [results, Try.results11, go_sem, r0, r1, r2, r3]) rfl (NO.out _ 9 HE.out ?_)
    exact (((B5.out.setCell (Nat.le_refl _) _).setCell (Nat.le_refl _) _).setCell (Nat.le_refl _) _).setCell (Nat.le_refl _) _
end Go.Proofs.Ytappficbjjkmiaa
