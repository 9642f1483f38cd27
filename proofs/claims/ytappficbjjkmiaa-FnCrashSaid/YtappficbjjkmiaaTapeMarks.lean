/-
  What markTapeS and heldTapeS of the laws do in rows of the call's own.
-/
import Derived.Test.YtappficbjjkmiaaPart5
import Derived.Test.YtappficbjjkmiaaPart6
namespace Go.Proofs.Ytappficbjjkmiaa
open Go.RowKit

/-- The number behind the marks of all tapes. -/
def M.tend : List (M.TapeD × Value) → Nat → Nat
  | [], k => k
  | p :: ps, k => M.tend ps (k + 3 + p.1.ss.length)
/-- A tape's marks from a number on. -/
def M.tmark (p : M.TapeD × Value) (k : Nat) : M.TapeD × Value := (⟨(k : Int), M.mts p.1.ss.length (k + 1), ((k + 1 + p.1.ss.length : Nat) : Int), ((k + 2 + p.1.ss.length : Nat) : Int)⟩, p.2)
def M.tmarks : List (M.TapeD × Value) → Nat → List (M.TapeD × Value)
  | [], _ => []
  | p :: ps, k => M.tmark p k :: M.tmarks ps (k + 3 + p.1.ss.length)
theorem M.tend_snoc : ∀ (ps : List (M.TapeD × Value)) (p : M.TapeD × Value) (k : Nat), M.tend (ps ++ [p]) k = M.tend ps k + 3 + p.1.ss.length
  | [], _, _ => rfl
  | _ :: ps, p, _ => M.tend_snoc ps p _
theorem M.tmarks_snoc : ∀ (ps : List (M.TapeD × Value)) (p : M.TapeD × Value) (k : Nat), M.tmarks (ps ++ [p]) k = M.tmarks ps k ++ [M.tmark p (M.tend ps k)]
  | [], _, _ => rfl
  | q :: ps, p, k => by
    show M.tmark q k :: M.tmarks (ps ++ [p]) _ = _
    rw [M.tmarks_snoc ps p]
    rfl
theorem M.tmarks_len : ∀ (ps : List (M.TapeD × Value)) (k : Nat), (M.tmarks ps k).length = ps.length
  | [], _ => rfl
  | _ :: ps, k => by
    show (M.tmarks ps _).length + 1 = _
    rw [M.tmarks_len ps]; rfl
theorem M.tmarks_snd : ∀ (ps : List (M.TapeD × Value)) (k : Nat), (M.tmarks ps k).map Prod.snd = ps.map Prod.snd
  | [], _ => rfl
  | p :: ps, k => by
    show p.2 :: (M.tmarks ps _).map Prod.snd = _
    rw [M.tmarks_snd ps]; rfl
theorem M.tend_eq : ∀ (ps : List (M.TapeD × Value)) (k : Nat), M.tend ps k = k + 3 * ps.length + M.tln (ps.map Prod.fst)
  | [], _ => rfl
  | p :: ps, k => by
    show M.tend ps _ = _
    rw [M.tend_eq ps]
    simp [M.tln]; omega
theorem M.tend_mono (ps : List (M.TapeD × Value)) (i k : Nat) : M.tend (ps.take i) k ≤ M.tend ps k := by
  rw [M.tend_eq, M.tend_eq]
  have h1 : (ps.take i).length ≤ ps.length := by rw [List.length_take]; exact Nat.min_le_right _ _
  have h2 : M.tln (ps.map Prod.fst) = M.tln ((ps.take i).map Prod.fst) + M.tln ((ps.drop i).map Prod.fst) := by
    rw [← M.tln_app, ← List.map_append, List.take_append_drop]
  omega
theorem M.tmarks_app : ∀ (xs ys : List (M.TapeD × Value)) (k : Nat), M.tmarks (xs ++ ys) k = M.tmarks xs k ++ M.tmarks ys (M.tend xs k)
  | [], _, _ => rfl
  | x :: xs, ys, k => by
    show M.tmark x k :: M.tmarks (xs ++ ys) _ = _
    rw [M.tmarks_app xs ys]; rfl
theorem M.tmarks_get {ps : List (M.TapeD × Value)} {i k : Nat} {p : M.TapeD × Value} (h : ps[i]? = some p) : (M.tmarks ps k)[i]? = some (M.tmark p (M.tend (ps.take i) k)) := by
  have hl := (List.getElem?_eq_some_iff.1 h).1
  have hd : ps.drop i = p :: ps.drop (i + 1) := by
    rw [List.drop_eq_getElem_cons hl, (List.getElem?_eq_some_iff.1 h).2]
  have e := M.tmarks_app (ps.take i) (ps.drop i) k
  rw [List.take_append_drop, hd] at e
  rw [e, List.getElem?_append_right (by rw [M.tmarks_len, List.length_take]; exact Nat.min_le_left _ _), M.tmarks_len, List.length_take, Nat.min_eq_left (by omega), Nat.sub_self]
  rfl

theorem M.apart_congr {ps qs : List (M.TapeD × Value)} (h : M.apart ps) (e : ps.map Prod.snd = qs.map Prod.snd) : M.apart qs := by
  have h1 : (ps.map Prod.snd).Pairwise fun u v => ∀ g, u.ownBlock = some g → v.ownBlock ≠ some g := List.pairwise_map.2 h
  rw [e] at h1
  exact List.pairwise_map.1 h1
theorem M.OwnS.setO {w : World} {base : Nat} {v : Value} {ss : List ByteArray} (h : M.OwnS w base v ss) {H : Nat} (hH : v.ownBlock ≠ some H) (j : Nat) (u : Value) : M.OwnS (w.setCell ⟨H, j, none⟩ u) base v ss := by
  obtain ⟨hl, h0 | ⟨g, cap, cur, hv, hg, hh, hr⟩⟩ := h
  · exact ⟨hl, .inl h0⟩
  · have hne : H ≠ g := fun e => hH (by rw [hv, e]; rfl)
    exact ⟨hl, .inr ⟨g, cap, cur, hv, hg, by rw [M.setfr hne]; exact hh, hr⟩⟩
theorem M.OwnS.notRow {w : World} {base g N : Nat} {v : Value} {ss : List ByteArray} (h : M.OwnS w base v ss) (hr : M.Row w g 36 N) : v.ownBlock ≠ some g := by
  obtain ⟨cur0, hh0, -⟩ := hr
  obtain ⟨-, ⟨rfl, -⟩ | ⟨g', cap, cur, rfl, -, hh, -⟩⟩ := h
  · intro hj; cases hj
  · intro hj
    have e := Option.some.inj hj
    simp only at e
    rw [e, hh0] at hh
    have := Option.some.inj hh
    simp at this
theorem M.OwnS.but {w w' : World} {base : Nat} {v : Value} {ss : List ByteArray} {row : Option Nat} (h : M.OwnS w base v ss) (hg : w.grownBy w' row) (hne : ∀ j, v.ownBlock = some j → row ≠ some j) : M.OwnS w' base v ss := by
  obtain ⟨hl, h0 | ⟨g, cap, cur, hv, hb, hh, hr⟩⟩ := h
  · exact ⟨hl, .inl h0⟩
  · exact ⟨hl, .inr ⟨g, cap, cur, hv, hb, by rw [hg.block g (Array.getElem?_eq_some_iff.1 hh).1 (fun e => hne g (by rw [hv]; rfl) e.symm)]; exact hh, hr⟩⟩
/-- One tape's cells are stored anew. -/
theorem M.PAt.upd {w W : World} {g i : Nat} {A B : List (M.TapeD × Value)} {p q : M.TapeD × Value} (h : M.PAt w g (A ++ p :: B)) (hA : A.length = i) (hq : q.2 = p.2) (hold : ∀ j, j ≠ i * 4 → j ≠ i * 4 + 2 → j ≠ i * 4 + 3 → W.cell? ⟨g, j, none⟩ = w.cell? ⟨g, j, none⟩)
    (h0 : W.cell? ⟨g, i * 4, none⟩ = some (.int .i64 q.1.lab)) (h2 : W.cell? ⟨g, i * 4 + 2, none⟩ = some (.int .i64 q.1.syn)) (h3 : W.cell? ⟨g, i * 4 + 3, none⟩ = some (.int .i64 q.1.room)) : M.PAt W g (A ++ q :: B) := by
  intro j r hr
  by_cases e : j = i
  · subst e
    rw [List.getElem?_append_right (by omega), hA, Nat.sub_self] at hr
    obtain rfl := Option.some.inj hr
    obtain ⟨-, c1, -, -⟩ := h j p (by rw [List.getElem?_append_right (by omega), hA, Nat.sub_self]; rfl)
    exact ⟨h0, by rw [hold _ (by omega) (by omega) (by omega), hq]; exact c1, h2, h3⟩
  · have hr' : (A ++ p :: B)[j]? = some r := by
      by_cases hj : j < A.length
      · rw [List.getElem?_append_left hj] at hr ⊢; exact hr
      · rw [List.getElem?_append_right (by omega)] at hr ⊢
        obtain ⟨t, ht⟩ : ∃ t, j - A.length = t + 1 := ⟨j - A.length - 1, by omega⟩
        rw [ht] at hr ⊢
        exact hr
    obtain ⟨c0, c1, c2, c3⟩ := h j r hr'
    exact ⟨by rw [hold _ (by omega) (by omega) (by omega)]; exact c0, by rw [hold _ (by omega) (by omega) (by omega)]; exact c1, by rw [hold _ (by omega) (by omega) (by omega)]; exact c2, by rw [hold _ (by omega) (by omega) (by omega)]; exact c3⟩
/-- The blocks of each tape are the call's own. -/
def M.each (w : World) (lo hi : Nat) (ps : List (M.TapeD × Value)) : Prop := ∀ p ∈ ps, M.own1 w lo hi p
theorem M.each.set {w : World} {lo hi g N : Nat} {ps : List (M.TapeD × Value)} (h : M.each w lo hi ps) (hr : M.Row w g 36 N) (j : Nat) (u : Value) : M.each (w.setCell ⟨g, j, none⟩ u) lo hi ps :=
  fun p hp => ⟨(h p hp).1.setO ((h p hp).1.notRow hr) j u, (h p hp).2⟩
theorem M.each.upd {w W : World} {lo hi : Nat} {A B : List (M.TapeD × Value)} {p q : M.TapeD × Value} (h : M.each w lo hi (A ++ p :: B)) (ha : M.apart (A ++ p :: B)) (hq : q.2 = p.2) (hg : w.grownBy W p.2.ownBlock) (ho : M.OwnS W lo p.2 q.1.ss) : M.each W lo hi (A ++ q :: B) := by
  obtain ⟨-, hB, hAB⟩ := List.pairwise_append.1 ha
  have hpB := (List.pairwise_cons.1 hB).1
  have hp := h p (by simp)
  intro r hr
  rcases List.mem_append.1 hr with h1 | h1
  · have := h r (List.mem_append.2 (.inl h1))
    exact ⟨this.1.but hg (fun j hj => fun e => hAB r h1 p (by simp) j hj e), this.2⟩
  · rcases List.mem_cons.1 h1 with rfl | h2
    · exact ⟨by rw [hq]; exact ho, by rw [hq]; exact hp.2⟩
    · have := h r (List.mem_append.2 (.inr (List.mem_cons_of_mem _ h2)))
      exact ⟨this.1.but hg (fun j hj => fun e => hpB r h2 j e hj), this.2⟩

/-- No old block changes but the tapes' own. -/
def M.Only (v : Value) (ps : List (M.TapeD × Value)) (w w' : World) : Prop := ∀ k, k < w.heap.size → v.ownBlock ≠ some k → (∀ p ∈ ps, p.2.ownBlock ≠ some k) → w'.heap[k]? = w.heap[k]?

set_option maxRecDepth 100000 in
set_option maxHeartbeats 3200000 in
theorem markTapeS_own2 (w : World) (lo hi : Nat) (v : Value) (ps : List (M.TapeD × Value)) (k0 : Nat) (h : M.OwnT w lo hi v ps) (hk1 : 1 ≤ k0) (hl : M.tend ps k0 ≤ 40000000) :
    Calls Try.prog 31 #[v, .int .i64 k0] w fun e w' => e = .returned (.int .i64 ((M.tend ps k0 : Nat) : Int)) ∧ M.OwnT w' lo hi v (M.tmarks ps k0) ∧ M.Mid lo hi w w' ∧ M.Only v ps w w' := by
  obtain ⟨⟨hl0, ⟨rfl, h0⟩ | ⟨g, cap, cur, rfl, hb, hh, hn, hc, hz, ht⟩⟩, htop, heach, hap⟩ := h
  · obtain rfl : ps = [] := List.length_eq_zero_iff.1 h0
    show Calls Try.prog _ _ w fun e w' => e = .returned (.int .i64 (k0 : Int)) ∧ _
    go_enter Try.func31, Try.ntmps31
    go_wp2
    go_loopw [1, 5] (fun x y wr => x = .int .i64 (k0 : Int) ∧ y = .int .i64 0 ∧ w = wr) (fun _ _ _ => 0)
    case atStart => exact ⟨rfl, rfl, rfl⟩
    case round =>
      obtain ⟨rfl, rfl, rfl⟩ := hrel
      go_wp2
      go_ret
      exact ⟨rfl, M.OwnT.nil _ _ _, M.Mid.refl _ _ _, fun k _ _ _ => rfl⟩
  · have hgt : g < hi := htop g rfl
    have HPA := M.hl (M.pat_of hh ht)
    have HRO : Hid (M.Row w g 36 (cap * 4)) := ⟨cur, hh, hz⟩
    have HE : Hid (M.each w lo hi ps) := heach
    have HAP := M.hl hap
    have HTL := M.hl hl
    have HTM := M.hl (fun i => Nat.le_trans (M.tend_mono ps i k0) hl)
    obtain ⟨n, hnn⟩ : ∃ n, n = ps.length := ⟨_, rfl⟩
    rw [← hnn]
    have HN := M.hl hnn
    have hncap : n ≤ cap := by omega
    have hn48 : n ≤ 40000000 := by have := M.tend_eq ps k0; omega
    clear hl0 hh hn hz ht heach hap hl hnn htop
    go_enter Try.func31, Try.ntmps31
    go_wp2
    go_loopw [1, 5] (fun x y wr => ∃ (i K : Nat), x = .int .i64 (K : Int) ∧ y = .int .i64 i ∧ i ≤ n ∧ K ≤ 40000000 ∧ 1 ≤ K ∧ Hid (K = M.tend (ps.take i) k0) ∧ Hid (M.Row wr g 36 (cap * 4)) ∧ Hid (M.PAt wr g (M.tmarks (ps.take i) k0 ++ ps.drop i)) ∧ Hid (M.each wr lo hi (M.tmarks (ps.take i) k0 ++ ps.drop i)) ∧ Hid (M.Mid lo hi w wr) ∧ Hid (M.Only (.slice (some ⟨g, 0, none⟩) n cap) ps w wr)) (fun _ y _ => n - (intOf y).toNat)
    case atStart => exact ⟨0, k0, rfl, rfl, Nat.zero_le _, by have := HTM.out 0; simpa [M.tend] using this, hk1, rfl, HRO, HPA, HE, M.Mid.refl _ _ _, M.hl (fun k _ _ _ => rfl)⟩
    case round =>
      obtain ⟨i, K, rfl, rfl, hi1, hK4, hK1, HK, HRr, HPr, HEr, HMr, HYr⟩ := hrel
      by_cases hlt : i < n
      · have hfk := List.getElem?_eq_getElem (l := ps) (i := i) (by have := HN.out; omega)
        generalize ps[i]'(by have := HN.out; omega) = p at hfk
        have hdrop : ps.drop i = p :: ps.drop (i + 1) := by
          rw [List.drop_eq_getElem_cons (by have := HN.out; omega)]
          have := (List.getElem?_eq_some_iff.1 hfk).2
          rw [this]
        have hPi := HPr.out
        have hEi := HEr.out
        rw [hdrop] at hPi hEi
        have hAP : M.apart (M.tmarks (ps.take i) k0 ++ p :: ps.drop (i + 1)) := M.apart_congr HAP.out (by rw [List.map_append, M.tmarks_snd, ← List.map_append, ← hdrop, List.take_append_drop])
        obtain ⟨A, hA⟩ : ∃ A, A = M.tmarks (ps.take i) k0 := ⟨_, rfl⟩
        have hAl : A.length = i := by rw [hA, M.tmarks_len, List.length_take]; have := HN.out; omega
        have hnext : M.tmarks (ps.take (i + 1)) k0 ++ ps.drop (i + 1) = A ++ M.tmark p K :: ps.drop (i + 1) := by
          rw [M.take_snocG hfk, M.tmarks_snoc, ← hA, ← HK.out, List.append_assoc]; rfl
        have hKn : M.tend (ps.take (i + 1)) k0 = K + 3 + p.1.ss.length := by rw [M.take_snocG hfk, M.tend_snoc, ← HK.out]
        have hKb : K + 3 + p.1.ss.length ≤ 40000000 := by rw [← hKn]; exact HTM.out (i + 1)
        rw [← hA] at hPi hEi hAP
        obtain ⟨B, hB⟩ : ∃ B, B = ps.drop (i + 1) := ⟨_, rfl⟩
        rw [← hB] at hPi hEi hAP hnext
        have HNX := M.hl hnext
        have HBB := M.hl hB
        have HKN := M.hl hKn
        have HAL := M.hl hAl
        obtain ⟨c0, c1, c2, c3⟩ := hPi i p (by rw [List.getElem?_append_right (by omega), hAl, Nat.sub_self]; rfl)
        have HPI := M.hl hPi
        have HMEM := M.hl (List.mem_of_getElem? hfk)
        have HEI := M.hl hEi
        have HAPI := M.hl hAP
        obtain ⟨⟨x, ss, y, z⟩, u⟩ := p
        simp only at c0 c1 c2 c3 hKb
        have hown := (hEi (⟨x, ss, y, z⟩, u) (by simp)).1
        have hub := (hEi (⟨x, ss, y, z⟩, u) (by simp)).2
        simp only at hown hub
        obtain ⟨ua, uc, rfl⟩ := hown.len
        have hnr := hown.notRow HRr.out
        have HO1 := M.hl (hown.setO hnr (i * 4) (.int .i64 (K : Int)))
        have HUB : Hid (∀ g', (Value.slice ua ss.length uc).ownBlock = some g' → lo ≤ g' ∧ g' < hi) := fun g' hg' => ⟨(World.ownsRow.lt hown g' hg').1, hub g' hg'⟩
        have HNR := M.hl hnr
        have f0 := HRr.out.free (i * 4)
        have CM := M.hl (markStringS_ownK (wr.setCell ⟨g, i * 4, none⟩ (.int .i64 (K : Int))) lo _ ss (K + 1) HO1.out (by omega) (by omega))
        obtain ⟨L, hL⟩ : ∃ L, L = ss.length := ⟨_, rfl⟩
        rw [← hL] at CM c1 hKb HUB HNR HKN
        obtain ⟨K2, hK2⟩ : ∃ K2, K2 = K + 1 + L := ⟨_, rfl⟩
        rw [← hK2, show ((K + 1 : Nat) : Int) = (K : Int) + 1 by omega] at CM
        have HK2 := M.hl hK2
        have HLL := M.hl hL
        have hK2b : K2 ≤ 40000000 := by omega
        clear hfk hdrop hPi hEi hAP hA hnext hKn hB hown hub hnr hK2 hL hAl
        go_wp2_with fail
        refine CM.out.mono ?_
        rintro e w2 ⟨rfl, hO2, hg2⟩
        have hR1 : M.Row (wr.setCell ⟨g, i * 4, none⟩ (.int .i64 (K : Int))) g 36 (cap * 4) := HRr.out.setCell _ _
        have hblk := hg2.block g hR1.lt (fun e => HNR.out e.symm)
        have hR2 := hR1.of_block hblk
        have HR2 := M.hl hR2
        have HO2 := M.hl hO2
        have HG2 := M.hl hg2
        have CE : Hid (∀ j, w2.cell? ⟨g, j, none⟩ = (wr.setCell ⟨g, i * 4, none⟩ (.int .i64 (K : Int))).cell? ⟨g, j, none⟩) := fun j => World.cell?_of_block (a := ⟨g, j, none⟩) hblk
        obtain ⟨v0, g0⟩ := HRr.out.cell (i := i * 4) (by omega)
        obtain ⟨v2, g2⟩ := hR2.cell (i := i * 4 + 2) (by omega)
        obtain ⟨v3, g3⟩ := hR2.cell (i := i * 4 + 3) (by omega)
        have f2 := hR2.free (i * 4 + 2)
        have f3 := hR2.free (i * 4 + 3)
        have HG0 := M.hl g0
        have HY2 : Hid (M.Only (.slice (some ⟨g, 0, none⟩) n cap) ps w w2) := fun k hk hv hp => by
          have hkg : g ≠ k := fun e => hv (by rw [e]; rfl)
          have h1 := HMr.out.size
          exact (hg2.block k (by simp [World.setCell]; omega) (fun e => hp _ HMEM.out (by have h2 := e.symm; rw [HLL.out] at h2; exact h2))).trans ((M.setfr hkg).trans (HYr.out k hk hv hp))
        have HM2 : Hid (M.Mid lo hi w w2) := (HMr.out.setCell hb hgt _ _).trans (M.Mid.of_grown hg2 (fun g' e => HUB.out g' e))
        clear hO2 hg2 hblk hR1 hR2 g0 f0 c0 c1 c2 c3
        go_wp2
        go_roundw
        case rel =>
          refine ⟨i + 1, K + 3 + L, by have := HK2.out; go_num, by go_num, by omega, by omega, by omega, ?_, (HR2.out.setCell _ _).setCell _ _, ?_, ?_, (HM2.out.setCell hb hgt _ _).setCell hb hgt _ _, M.hl (fun k hk hv hp => (M.setfr (fun e => hv (by rw [← e]; rfl))).trans ((M.setfr (fun e => hv (by rw [← e]; rfl))).trans (HY2.out k hk hv hp)))⟩
          · show _ = _
            exact HKN.out.symm
          · show M.PAt _ _ _
            rw [← HBB.out, HNX.out]
            refine HPI.out.upd HAL.out rfl (fun j h0 h2 h3 => ?_) ?_ ?_ ?_
            · rw [M.co4 (by omega), M.co4 (by omega), CE.out j, M.co4 (by omega)]
            · rw [M.co4 (by omega), M.co4 (by omega), CE.out, World.cell?_setCell_same _ _ _ HG0.out]; rfl
            · rw [M.co4 (by omega), World.cell?_setCell_same _ _ _ g2]
              have := HK2.out
              have := HLL.out
              simp only [M.tmark]
              rw [show K2 = K + 1 + ss.length by omega]
            · rw [World.cell?_setCell_same _ _ _ ((M.co4 (by omega)).trans g3)]
              have := HK2.out
              have := HLL.out
              simp only [M.tmark]
              rw [show (K2 : Int) + 1 = ((K + 2 + ss.length : Nat) : Int) by omega]
          · show M.each _ _ _ _
            rw [← HBB.out, HNX.out]
            refine M.each.set (N := cap * 4) (M.each.set (N := cap * 4) (M.each.upd (HEI.out.set HRr.out (i * 4) (.int .i64 (K : Int))) HAPI.out (q := M.tmark (⟨x, ss, y, z⟩, .slice ua ss.length uc) K) rfl ?_ ?_) HR2.out _ _) (HR2.out.setCell _ _) _ _
            · have := HG2.out
              rw [HLL.out] at this
              exact this
            · have := HO2.out
              rw [HLL.out] at this
              exact this
        case measure => simp [intOf]; omega
      · obtain rfl : i = n := by omega
        have hE1 : ps.take i = ps := List.take_of_length_le (by have := HN.out; omega)
        have hE2 : ps.drop i = [] := List.drop_of_length_le (by have := HN.out; omega)
        have h1 := HK.out
        have h2 := HPr.out
        have h3 := HEr.out
        rw [hE1, hE2, List.append_nil] at h2 h3
        rw [hE1] at h1
        have H1 := M.hl h1
        have H2 := M.hl h2
        have H3 := M.hl h3
        clear h1 h2 h3 hE1 hE2
        go_wp2
        go_ret
        refine ⟨by rw [H1.out]; rfl, ⟨?_, fun g' e => ?_, H3.out, M.apart_congr HAP.out (M.tmarks_snd _ _).symm⟩, HMr.out, HYr.out⟩
        · have hlen : (M.tmarks ps k0).length = i := by rw [M.tmarks_len]; exact HN.out.symm
          have := M.row_of (cap := cap) (lo := lo) H2.out HRr.out hb (by rw [hlen]; exact hncap) hc
          rwa [hlen] at this ⊢
        · obtain rfl := Option.some.inj e
          exact hgt
theorem markTapeS_own (w : World) (lo hi : Nat) (v : Value) (ps : List (M.TapeD × Value)) (k0 : Nat) (h : M.OwnT w lo hi v ps) (hk1 : 1 ≤ k0) (hl : M.tend ps k0 ≤ 40000000) :
    Calls Try.prog 31 #[v, .int .i64 k0] w fun e w' => e = .returned (.int .i64 ((M.tend ps k0 : Nat) : Int)) ∧ M.OwnT w' lo hi v (M.tmarks ps k0) ∧ M.Mid lo hi w w' :=
  (markTapeS_own2 w lo hi v ps k0 h hk1 hl).mono (by rintro e w' ⟨he, ho, hm, -⟩; exact ⟨he, ho, hm⟩)

set_option maxRecDepth 100000 in
set_option maxHeartbeats 3200000 in
theorem heldTapeS_own (w : World) (lo hi : Nat) (v : Value) (ps : List (M.TapeD × Value)) (k0 : Nat) (h : M.OwnT w lo hi v (M.tmarks ps k0)) (hk1 : 1 ≤ k0) (hl : M.tend ps k0 ≤ 40000000) :
    Calls Try.prog 40 #[v, .int .i64 k0] w fun e w' => e = .returned (.int .i64 ((M.tend ps k0 : Nat) : Int)) ∧ Below w.heap.size w w' := by
  obtain ⟨a, cap, rfl, hv⟩ := h.tps
  rw [M.tmarks_len] at hv ⊢
  have HF := M.hl hv
  have HTM := M.hl (fun i => Nat.le_trans (M.tend_mono ps i k0) hl)
  have HTL := M.hl hl
  obtain ⟨n, hnn⟩ : ∃ n, n = ps.length := ⟨_, rfl⟩
  rw [← hnn] at HF ⊢
  have HN := M.hl hnn
  have hn48 : n ≤ 40000000 := by have := M.tend_eq ps k0; omega
  clear h hv hl hnn
  go_enter Try.func40, Try.ntmps40
  go_wp2
  go_loopw [1, 5] (fun x y wr => ∃ (i K : Nat), x = .int .i64 (K : Int) ∧ y = .int .i64 i ∧ i ≤ n ∧ K ≤ 40000000 ∧ 1 ≤ K ∧ Hid (K = M.tend (ps.take i) k0) ∧ Hid (Below w.heap.size w wr)) (fun _ y _ => n - (intOf y).toNat)
  case atStart => exact ⟨0, k0, rfl, rfl, Nat.zero_le _, by have := HTM.out 0; simpa [M.tend] using this, hk1, rfl, Below.refl _ _⟩
  case round =>
    obtain ⟨i, K, rfl, rfl, hi1, hK4, hK1, HK, HBr⟩ := hrel
    by_cases hlt : i < n
    · have hfk := List.getElem?_eq_getElem (l := ps) (i := i) (by have := HN.out; omega)
      generalize ps[i]'(by have := HN.out; omega) = p at hfk
      have hKn : M.tend (ps.take (i + 1)) k0 = K + 3 + p.1.ss.length := by rw [M.take_snocG hfk, M.tend_snoc, ← HK.out]
      have hKb : K + 3 + p.1.ss.length ≤ 40000000 := by rw [← hKn]; exact HTM.out (i + 1)
      have hmk := M.tmarks_get (k := k0) hfk
      rw [← HK.out] at hmk
      obtain ⟨b, off, t, rfl, ht, hat⟩ := (HF.out.below HBr.out).at hlt
      rw [List.getElem?_map, hmk] at ht
      obtain rfl := Option.some.inj ht
      obtain ⟨c0, ⟨a', n', c', c1, hs, -⟩, c2, c3⟩ := hat
      simp only [M.tmark] at c0 c1 c2 c3 hs
      obtain ⟨L, hL⟩ : ∃ L, L = p.1.ss.length := ⟨_, rfl⟩
      rw [← hL] at hKn hKb c2 c3 hs
      have hn' : n' = L := by rw [hs.1, M.mts_len]
      subst hn'
      obtain ⟨K2, hK2⟩ : ∃ K2, K2 = K + 1 + n' := ⟨_, rfl⟩
      rw [← hK2] at c2
      rw [show ((K + 2 + n' : Nat) : Int) = (K2 : Int) + 1 by omega] at c3
      have CH := M.hl (heldStringS_k wr a' n' c' (K + 1) hs (by omega) (by omega))
      rw [← hK2, show ((K + 1 : Nat) : Int) = (K : Int) + 1 by omega] at CH
      have HK2 := M.hl hK2
      have HKN := M.hl hKn
      have hK2b : K2 ≤ 40000000 := by omega
      have d0 : ((K : Int) != (K : Int)) = false := by simp
      clear hfk hmk ht hs hKn hL hK2
      go_wp2_with fail
      refine CH.out.mono ?_
      rintro e w2 ⟨rfl, hb⟩
      have q2 : w2.cell? ⟨b, off + i * 4 + 2, none⟩ = some (.int .i64 (K2 : Int)) := (hb.cell (p := ⟨b, off + i * 4 + 2, none⟩) (World.block_lt_of_cell? wr _ c2)).trans c2
      have q3 : w2.cell? ⟨b, off + i * 4 + 3, none⟩ = some (.int .i64 ((K2 : Int) + 1)) := (hb.cell (p := ⟨b, off + i * 4 + 3, none⟩) (World.block_lt_of_cell? wr _ c3)).trans c3
      have HB2 : Hid (Below w.heap.size w w2) := HBr.out.trans (hb.mono HBr.out.size)
      clear hb c0 c1 c2 c3
      go_wp2
      go_roundw
      case rel => exact ⟨i + 1, K + 3 + n', by have := HK2.out; go_num, by go_num, by omega, by omega, by omega, M.hl HKN.out.symm, HB2⟩
      case measure => simp [intOf]; omega
    · obtain rfl : i = n := by omega
      have hE1 : ps.take i = ps := List.take_of_length_le (by have := HN.out; omega)
      have h1 := HK.out
      rw [hE1] at h1
      have H1 := M.hl h1
      clear h1 hE1
      go_wp2
      go_ret
      exact ⟨by rw [H1.out]; rfl, HBr.out⟩
end Go.Proofs.Ytappficbjjkmiaa
