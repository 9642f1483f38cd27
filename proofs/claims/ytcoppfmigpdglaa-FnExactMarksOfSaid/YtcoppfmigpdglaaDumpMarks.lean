/-
  What markDumpS and heldDumpS of the laws do in rows of the call's own.
-/
import Derived.Test.YtcoppfmigpdglaaDumpSS
import Derived.Test.YtcoppfmigpdglaaMarkText
namespace Go.Proofs.Ytcoppfmigpdglaa
open Go.RowKit

/-- The number behind the marks of all dumps. -/
def M.dend : List (M.DumpD × Value) → Nat → Nat
  | [], k => k
  | p :: ps, k => M.dend ps (k + 8 + 4 * p.1.ps.length)
/-- A dump's marks from a number on. -/
def M.dmark (p : M.DumpD × Value) (k : Nat) : M.DumpD × Value := (⟨(k : Int), M.mt (k + 1), (k : Int) + 2, (k : Int) + 3, (k : Int) + 4, (k : Int) + 5, (k : Int) + 6, (k : Int) + 7, M.ptmarks p.1.ps.length (k + 8)⟩, p.2)
def M.dmarks : List (M.DumpD × Value) → Nat → List (M.DumpD × Value)
  | [], _ => []
  | p :: ps, k => M.dmark p k :: M.dmarks ps (k + 8 + 4 * p.1.ps.length)
theorem M.dend_snoc : ∀ (ps : List (M.DumpD × Value)) (p : M.DumpD × Value) (k : Nat), M.dend (ps ++ [p]) k = M.dend ps k + 8 + 4 * p.1.ps.length
  | [], _, _ => rfl
  | _ :: ps, p, _ => M.dend_snoc ps p _
theorem M.dmarks_snoc : ∀ (ps : List (M.DumpD × Value)) (p : M.DumpD × Value) (k : Nat), M.dmarks (ps ++ [p]) k = M.dmarks ps k ++ [M.dmark p (M.dend ps k)]
  | [], _, _ => rfl
  | q :: ps, p, k => by
    show M.dmark q k :: M.dmarks (ps ++ [p]) _ = _
    rw [M.dmarks_snoc ps p]
    rfl
theorem M.dmarks_len : ∀ (ps : List (M.DumpD × Value)) (k : Nat), (M.dmarks ps k).length = ps.length
  | [], _ => rfl
  | _ :: ps, k => by
    show (M.dmarks ps _).length + 1 = _
    rw [M.dmarks_len ps]; rfl
theorem M.dmarks_snd : ∀ (ps : List (M.DumpD × Value)) (k : Nat), (M.dmarks ps k).map Prod.snd = ps.map Prod.snd
  | [], _ => rfl
  | p :: ps, k => by
    show p.2 :: (M.dmarks ps _).map Prod.snd = _
    rw [M.dmarks_snd ps]; rfl
/-- How many parts. -/
def M.dpn (ps : List (M.DumpD × Value)) : Nat := (ps.map fun p => p.1.ps.length).sum
theorem M.dend_eq : ∀ (ps : List (M.DumpD × Value)) (k : Nat), M.dend ps k = k + 8 * ps.length + 4 * M.dpn ps
  | [], _ => rfl
  | p :: ps, k => by
    show M.dend ps _ = _
    rw [M.dend_eq ps]
    simp [M.dpn]; omega
theorem M.dpn_app (xs ys : List (M.DumpD × Value)) : M.dpn (xs ++ ys) = M.dpn xs + M.dpn ys := by simp [M.dpn]
theorem M.dpn_dln : ∀ (ps : List (M.DumpD × Value)), M.dpn ps ≤ M.dln (ps.map Prod.fst)
  | [] => Nat.le_refl _
  | p :: ps => by
    have := M.dpn_dln ps
    simp only [M.dpn, M.dln, List.map_cons, List.sum_cons] at this ⊢
    omega
theorem M.dend_mono (ps : List (M.DumpD × Value)) (i k : Nat) : M.dend (ps.take i) k ≤ M.dend ps k := by
  rw [M.dend_eq, M.dend_eq]
  have h1 : (ps.take i).length ≤ ps.length := by rw [List.length_take]; exact Nat.min_le_right _ _
  have h2 : M.dpn ps = M.dpn (ps.take i) + M.dpn (ps.drop i) := by rw [← M.dpn_app, List.take_append_drop]
  omega
theorem M.dmarks_app : ∀ (xs ys : List (M.DumpD × Value)) (k : Nat), M.dmarks (xs ++ ys) k = M.dmarks xs k ++ M.dmarks ys (M.dend xs k)
  | [], _, _ => rfl
  | x :: xs, ys, k => by
    show M.dmark x k :: M.dmarks (xs ++ ys) _ = _
    rw [M.dmarks_app xs ys]; rfl
theorem M.dmarks_get {ps : List (M.DumpD × Value)} {i k : Nat} {p : M.DumpD × Value} (h : ps[i]? = some p) : (M.dmarks ps k)[i]? = some (M.dmark p (M.dend (ps.take i) k)) := by
  have hl := (List.getElem?_eq_some_iff.1 h).1
  have hd : ps.drop i = p :: ps.drop (i + 1) := by
    rw [List.drop_eq_getElem_cons hl, (List.getElem?_eq_some_iff.1 h).2]
  have e := M.dmarks_app (ps.take i) (ps.drop i) k
  rw [List.take_append_drop, hd] at e
  rw [e, List.getElem?_append_right (by rw [M.dmarks_len, List.length_take]; exact Nat.min_le_left _ _), M.dmarks_len, List.length_take, Nat.min_eq_left (by omega), Nat.sub_self]
  rfl
theorem M.apartD_congr {ps qs : List (M.DumpD × Value)} (h : M.apartD ps) (e : ps.map Prod.snd = qs.map Prod.snd) : M.apartD qs := by
  have h1 : (ps.map Prod.snd).Pairwise fun u v => ∀ g, u.ownBlock = some g → v.ownBlock ≠ some g := List.pairwise_map.2 h
  rw [e] at h1
  exact List.pairwise_map.1 h1
theorem M.OwnPt.notRow {w : World} {base g N : Nat} {v : Value} {ss : List M.PartD} (h : M.OwnPt w base v ss) (hr : M.Row w g 25 N) : ∀ b, v.ownBlock = some b → b ≠ g := by
  intro b hb e
  subst e
  obtain ⟨cur0, hh0, -⟩ := hr
  obtain ⟨-, ⟨rfl, -⟩ | ⟨g', cap, cur, rfl, -, hh, -⟩⟩ := h
  · cases hb
  · have e := Option.some.inj hb
    simp only at e
    rw [e, hh0] at hh
    have := Option.some.inj hh
    simp at this
/-- One dump's cells are stored anew. -/
theorem M.DAt.upd {w W : World} {g i : Nat} {A B : List (M.DumpD × Value)} {p q : M.DumpD × Value} (h : M.DAt w g (A ++ p :: B)) (hA : A.length = i) (hold : ∀ j, (j < i * 9 ∨ i * 9 + 9 ≤ j) → W.cell? ⟨g, j, none⟩ = w.cell? ⟨g, j, none⟩)
    (hnew : ∀ j, j < 9 → W.cell? ⟨g, i * 9 + j, none⟩ = (M.dcells q)[j]?) : M.DAt W g (A ++ q :: B) := by
  intro j r hr c hc
  by_cases e : j = i
  · subst e
    rw [List.getElem?_append_right (by omega), hA, Nat.sub_self] at hr
    obtain rfl := Option.some.inj hr
    exact hnew c hc
  · have hr' : (A ++ p :: B)[j]? = some r := by
      by_cases hj : j < A.length
      · rw [List.getElem?_append_left hj] at hr ⊢; exact hr
      · rw [List.getElem?_append_right (by omega)] at hr ⊢
        obtain ⟨t, ht⟩ : ∃ t, j - A.length = t + 1 := ⟨j - A.length - 1, by omega⟩
        rw [ht] at hr ⊢
        exact hr
    rw [hold _ (by omega)]
    exact h j r hr' c hc
/-- The parts of each dump are the call's own. -/
def M.eachD (w : World) (lo hi : Nat) (ps : List (M.DumpD × Value)) : Prop := ∀ p ∈ ps, M.ownd1 w lo hi p
theorem M.eachD.below {w w' : World} {lo hi : Nat} {ps : List (M.DumpD × Value)} (h : M.eachD w lo hi ps) (hb : Below w.heap.size w w') : M.eachD w' lo hi ps := fun p hp => ⟨(h p hp).1.below hb, (h p hp).2⟩
theorem M.eachD.put {w : World} {lo hi g N o : Nat} {ps : List (M.DumpD × Value)} (h : M.eachD w lo hi ps) (hr : M.Row w g 25 N) (vs : List Value) : M.eachD (M.putL g o vs w) lo hi ps :=
  fun p hp => ⟨M.putL_pt ((h p hp).1.notRow hr) vs o (h p hp).1, (h p hp).2⟩
theorem M.eachD.upd {w W : World} {lo hi : Nat} {A B : List (M.DumpD × Value)} {p q : M.DumpD × Value} (h : M.eachD w lo hi (A ++ p :: B)) (ha : M.apartD (A ++ p :: B)) (hq : q.2 = p.2) (hg : w.grownBy W p.2.ownBlock) (ho : M.OwnPt W lo p.2 q.1.ps) : M.eachD W lo hi (A ++ q :: B) := by
  obtain ⟨-, hB, hAB⟩ := List.pairwise_append.1 ha
  have hpB := (List.pairwise_cons.1 hB).1
  have hp := h p (by simp)
  intro r hr
  rcases List.mem_append.1 hr with h1 | h1
  · have := h r (List.mem_append.2 (.inl h1))
    exact ⟨this.1.grown hg (fun j hj => fun e => hAB r h1 p (by simp) j hj e.symm), this.2⟩
  · rcases List.mem_cons.1 h1 with rfl | h2
    · exact ⟨by rw [hq]; exact ho, by rw [hq]; exact hp.2⟩
    · have := h r (List.mem_append.2 (.inr (List.mem_cons_of_mem _ h2)))
      exact ⟨this.1.grown hg (fun j hj => fun e => hpB r h2 j e.symm hj), this.2⟩
theorem M.putSeven (w : World) (g o : Nat) (v0 v1 v2 v3 v4 v5 v6 : Value) : M.putL g o [v0, v1, v2, v3, v4, v5, v6] w = (((((((w.setCell ⟨g, o, none⟩ v0).setCell ⟨g, o + 1, none⟩ v1).setCell ⟨g, o + 2, none⟩ v2).setCell ⟨g, o + 3, none⟩ v3).setCell ⟨g, o + 4, none⟩ v4).setCell ⟨g, o + 5, none⟩ v5).setCell ⟨g, o + 6, none⟩ v6) := rfl
theorem M.Mid.put {lo hi g : Nat} {a : World} (h1 : lo ≤ g) (h2 : g < hi) : ∀ (vs : List Value) (o : Nat) {b : World}, M.Mid lo hi a b → M.Mid lo hi a (M.putL g o vs b)
  | [], _, _, h => h
  | _ :: vs, o, _, h => M.Mid.put h1 h2 vs (o + 1) (h.setCell h1 h2 _ _)

set_option maxRecDepth 100000 in
set_option maxHeartbeats 3200000 in
theorem markDumpS_own (w : World) (lo hi : Nat) (v : Value) (ps : List (M.DumpD × Value)) (k0 : Nat) (h : M.OwnD w lo hi v ps) (hk1 : 1 ≤ k0) (hl : M.dend ps k0 ≤ 30000000) (hpl : ∀ p ∈ ps, p.1.ps.length ≤ 1048576) :
    Calls Try.prog 29 #[v, .int .i64 k0] w fun e w' => e = .returned (.int .i64 ((M.dend ps k0 : Nat) : Int)) ∧ M.OwnD w' lo hi v (M.dmarks ps k0) ∧ M.Mid lo hi w w' := by
  obtain ⟨⟨hl0, ⟨rfl, h0⟩ | ⟨g, cap, cur, rfl, hb, hh, hn, hc, hz, ht⟩⟩, htop, heach, hap⟩ := h
  · obtain rfl : ps = [] := List.length_eq_zero_iff.1 h0
    show Calls Try.prog _ _ w fun e w' => e = .returned (.int .i64 (k0 : Int)) ∧ _
    go_enter Try.func29, Try.ntmps29
    go_wp2
    go_loopw [1, 5] (fun x y wr => x = .int .i64 (k0 : Int) ∧ y = .int .i64 0 ∧ w = wr) (fun _ _ _ => 0)
    case atStart => exact ⟨rfl, rfl, rfl⟩
    case round =>
      obtain ⟨rfl, rfl, rfl⟩ := hrel
      go_wp2
      go_ret
      exact ⟨rfl, M.OwnD.nil _ _ _, M.Mid.refl _ _ _⟩
  · have hgt : g < hi := htop g rfl
    have HPA := M.hl (M.dat_of hh ht)
    have HRO : Hid (M.Row w g 25 (cap * 9)) := ⟨cur, hh, hz⟩
    have HE : Hid (M.eachD w lo hi ps) := heach
    have HAP := M.hl hap
    have HPL := M.hl hpl
    have HTM := M.hl (fun i => Nat.le_trans (M.dend_mono ps i k0) hl)
    obtain ⟨n, hnn⟩ : ∃ n, n = ps.length := ⟨_, rfl⟩
    rw [← hnn]
    have HN := M.hl hnn
    have hncap : n ≤ cap := by omega
    have hn48 : n ≤ 30000000 := by have := M.dend_eq ps k0; omega
    clear hl0 hh hn hz ht heach hap hl hnn htop hpl
    go_enter Try.func29, Try.ntmps29
    go_wp2
    go_loopw [1, 5] (fun x y wr => ∃ (i K : Nat), x = .int .i64 (K : Int) ∧ y = .int .i64 i ∧ i ≤ n ∧ K ≤ 30000000 ∧ 1 ≤ K ∧ Hid (K = M.dend (ps.take i) k0) ∧ Hid (M.Row wr g 25 (cap * 9)) ∧ Hid (M.DAt wr g (M.dmarks (ps.take i) k0 ++ ps.drop i)) ∧ Hid (M.eachD wr lo hi (M.dmarks (ps.take i) k0 ++ ps.drop i)) ∧ Hid (M.Mid lo hi w wr)) (fun _ y _ => n - (intOf y).toNat)
    case atStart => exact ⟨0, k0, rfl, rfl, Nat.zero_le _, by have := HTM.out 0; simpa [M.dend] using this, hk1, rfl, HRO, HPA, HE, M.Mid.refl _ _ _⟩
    case round =>
      obtain ⟨i, K, rfl, rfl, hi1, hK4, hK1, HK, HRr, HPr, HEr, HMr⟩ := hrel
      by_cases hlt : i < n
      · have hfk := List.getElem?_eq_getElem (l := ps) (i := i) (by have := HN.out; omega)
        generalize ps[i]'(by have := HN.out; omega) = p at hfk
        have hdrop : ps.drop i = p :: ps.drop (i + 1) := by
          rw [List.drop_eq_getElem_cons (by have := HN.out; omega)]
          have := (List.getElem?_eq_some_iff.1 hfk).2
          rw [this]
        have hPi := HPr.out
        have hEi := HEr.out
        rw [hdrop] at hPi hEi
        have hAP : M.apartD (M.dmarks (ps.take i) k0 ++ p :: ps.drop (i + 1)) := M.apartD_congr HAP.out (by rw [List.map_append, M.dmarks_snd, ← List.map_append, ← hdrop, List.take_append_drop])
        obtain ⟨A, hA⟩ : ∃ A, A = M.dmarks (ps.take i) k0 := ⟨_, rfl⟩
        have hAl : A.length = i := by rw [hA, M.dmarks_len, List.length_take]; have := HN.out; omega
        have hnext : M.dmarks (ps.take (i + 1)) k0 ++ ps.drop (i + 1) = A ++ M.dmark p K :: ps.drop (i + 1) := by
          rw [M.take_snocX hfk, M.dmarks_snoc, ← hA, ← HK.out, List.append_assoc]; rfl
        have hKn : M.dend (ps.take (i + 1)) k0 = K + 8 + 4 * p.1.ps.length := by rw [M.take_snocX hfk, M.dend_snoc, ← HK.out]
        have hql := HPL.out p (List.mem_of_getElem? hfk)
        have hKb : K + 8 + 4 * p.1.ps.length ≤ 30000000 := by rw [← hKn]; exact HTM.out (i + 1)
        rw [← hA] at hPi hEi hAP
        obtain ⟨B, hB⟩ : ∃ B, B = ps.drop (i + 1) := ⟨_, rfl⟩
        rw [← hB] at hPi hEi hAP hnext
        have HNX := M.hl hnext
        have HBB := M.hl hB
        have HKN := M.hl hKn
        have HAL := M.hl hAl
        have hcs := hPi i p (by rw [List.getElem?_append_right (by omega), hAl, Nat.sub_self]; rfl)
        have HPI := M.hl hPi
        have HEI := M.hl hEi
        have HAPI := M.hl hAP
        obtain ⟨⟨x1, hs, x2, x3, x4, x5, x6, x7, qs⟩, u⟩ := p
        simp only at hKb hql
        have hown := (hEi (⟨x1, hs, x2, x3, x4, x5, x6, x7, qs⟩, u) (by simp)).1
        have hub := (hEi (⟨x1, hs, x2, x3, x4, x5, x6, x7, qs⟩, u) (by simp)).2
        simp only at hown hub
        obtain ⟨ua, uc, rfl⟩ := hown.len
        have hnr := hown.notRow HRr.out
        have HNR := M.hl hnr
        have HUB : Hid (∀ g', (Value.slice ua qs.length uc).ownBlock = some g' → lo ≤ g' ∧ g' < hi) := fun g' hg' => ⟨(World.ownsRow.lt hown g' hg').1, hub g' hg'⟩
        have HCS := M.hl hcs
        have HO1 : Hid (M.OwnPt (wr.setCell ⟨g, i * 9, none⟩ (.int .i64 (K : Int))) lo (.slice ua qs.length uc) qs) := hown.setAt hnr _ _
        have HR1 : Hid (M.Row (wr.setCell ⟨g, i * 9, none⟩ (.int .i64 (K : Int))) g 25 (cap * 9)) := HRr.out.setCell _ _
        have HE1 : Hid (M.eachD (M.putL g (i * 9) [.int .i64 (K : Int)] wr) lo hi (A ++ (⟨x1, hs, x2, x3, x4, x5, x6, x7, qs⟩, .slice ua qs.length uc) :: B)) := HEI.out.put HRr.out _
        have HM1 : Hid (M.Mid lo hi w (M.putL g (i * 9) [.int .i64 (K : Int)] wr)) := HMr.out.put hb hgt _ _
        have f0 := HRr.out.free (i * 9)
        obtain ⟨v0, g0⟩ := HRr.out.cell (i := i * 9) (by omega)
        have G0 := M.hl g0
        have CT : Hid (∀ W, Calls Try.prog 61 #[.int .i64 ((K : Int) + 1)] W fun e w' => e = .returned (.string (M.mt (K + 1))) ∧ Below W.heap.size W w') := fun W => markText_any (K + 1) W (by omega) (by omega)
        obtain ⟨n1, hn1⟩ : ∃ n1, n1 = qs.length := ⟨_, rfl⟩
        have HN1 := M.hl hn1
        rw [← hn1] at hql hKb HNR HUB HO1 HE1 HKN
        clear hfk hdrop hPi hEi hAP hA hnext hKn hB hown hub hnr hcs hAl hn1
        go_wp2_with fail
        refine (CT.out _).mono ?_
        rintro e w2 ⟨rfl, hb2⟩
        have hblk := hb2.block g HR1.out.lt
        have hR2 := HR1.out.of_block hblk
        have HR2 := M.hl hR2
        have HO2 := M.hl (HO1.out.below hb2)
        have HE2 := M.hl (HE1.out.below hb2)
        have HM2 : Hid (M.Mid lo hi w w2) := HM1.out.trans (M.Mid.of_below hb2)
        have CE : Hid (∀ j, w2.cell? ⟨g, j, none⟩ = (wr.setCell ⟨g, i * 9, none⟩ (.int .i64 (K : Int))).cell? ⟨g, j, none⟩) := fun j => World.cell?_of_block (a := ⟨g, j, none⟩) hblk
        have f2 := hR2.free
        obtain ⟨v1, g1⟩ := hR2.cell (i := i * 9 + 1) (by omega)
        obtain ⟨v2, g2⟩ := hR2.cell (i := i * 9 + 2) (by omega)
        obtain ⟨v3, g3⟩ := hR2.cell (i := i * 9 + 3) (by omega)
        obtain ⟨v4, g4⟩ := hR2.cell (i := i * 9 + 4) (by omega)
        obtain ⟨v5, g5⟩ := hR2.cell (i := i * 9 + 5) (by omega)
        obtain ⟨v6, g6⟩ := hR2.cell (i := i * 9 + 6) (by omega)
        obtain ⟨v7, g7⟩ := hR2.cell (i := i * 9 + 7) (by omega)
        have c8 : w2.cell? ⟨g, i * 9 + 8, none⟩ = some (.slice ua n1 uc) := by rw [CE.out, M.cox (by omega), HCS.out 8 (by omega)]; rw [HN1.out]; rfl
        have C8 := M.hl c8
        have HO3 : Hid (M.OwnPt (M.putL g (i * 9 + 1) [.string (M.mt (K + 1)), .int .i64 ((K : Int) + 2), .int .i64 ((K : Int) + 3), .int .i64 ((K : Int) + 4), .int .i64 ((K : Int) + 5), .int .i64 ((K : Int) + 6), .int .i64 ((K : Int) + 7)] w2) lo (.slice ua n1 uc) qs) := M.putL_pt HNR.out _ _ HO2.out
        have HR3 : Hid (M.Row (M.putL g (i * 9 + 1) [.string (M.mt (K + 1)), .int .i64 ((K : Int) + 2), .int .i64 ((K : Int) + 3), .int .i64 ((K : Int) + 4), .int .i64 ((K : Int) + 5), .int .i64 ((K : Int) + 6), .int .i64 ((K : Int) + 7)] w2) g 25 (cap * 9)) := M.putL_row _ _ HR2.out
        have HE3 : Hid (M.eachD (M.putL g (i * 9 + 1) [.string (M.mt (K + 1)), .int .i64 ((K : Int) + 2), .int .i64 ((K : Int) + 3), .int .i64 ((K : Int) + 4), .int .i64 ((K : Int) + 5), .int .i64 ((K : Int) + 6), .int .i64 ((K : Int) + 7)] w2) lo hi (A ++ (⟨x1, hs, x2, x3, x4, x5, x6, x7, qs⟩, .slice ua n1 uc) :: B)) := HE2.out.put HR2.out _
        have HM3 : Hid (M.Mid lo hi w (M.putL g (i * 9 + 1) [.string (M.mt (K + 1)), .int .i64 ((K : Int) + 2), .int .i64 ((K : Int) + 3), .int .i64 ((K : Int) + 4), .int .i64 ((K : Int) + 5), .int .i64 ((K : Int) + 6), .int .i64 ((K : Int) + 7)] w2)) := HM2.out.put hb hgt _ _
        have E3 : M.putL g (i * 9 + 1) [.string (M.mt (K + 1)), .int .i64 ((K : Int) + 2), .int .i64 ((K : Int) + 3), .int .i64 ((K : Int) + 4), .int .i64 ((K : Int) + 5), .int .i64 ((K : Int) + 6), .int .i64 ((K : Int) + 7)] w2 = (((((((w2.setCell ⟨g, i * 9 + 1, none⟩ (.string (M.mt (K + 1)))).setCell ⟨g, i * 9 + 2, none⟩ (.int .i64 ((K : Int) + 2))).setCell ⟨g, i * 9 + 3, none⟩ (.int .i64 ((K : Int) + 3))).setCell ⟨g, i * 9 + 4, none⟩ (.int .i64 ((K : Int) + 4))).setCell ⟨g, i * 9 + 5, none⟩ (.int .i64 ((K : Int) + 5))).setCell ⟨g, i * 9 + 6, none⟩ (.int .i64 ((K : Int) + 6))).setCell ⟨g, i * 9 + 7, none⟩ (.int .i64 ((K : Int) + 7))) := M.putSeven w2 g (i * 9 + 1) (.string (M.mt (K + 1))) (.int .i64 ((K : Int) + 2)) (.int .i64 ((K : Int) + 3)) (.int .i64 ((K : Int) + 4)) (.int .i64 ((K : Int) + 5)) (.int .i64 ((K : Int) + 6)) (.int .i64 ((K : Int) + 7))
        obtain ⟨w3, hw3⟩ : ∃ w3, w3 = M.putL g (i * 9 + 1) [.string (M.mt (K + 1)), .int .i64 ((K : Int) + 2), .int .i64 ((K : Int) + 3), .int .i64 ((K : Int) + 4), .int .i64 ((K : Int) + 5), .int .i64 ((K : Int) + 6), .int .i64 ((K : Int) + 7)] w2 := ⟨_, rfl⟩
        have HW3 := M.hl hw3
        rw [← hw3] at HO3 HR3 HE3 HM3 E3
        have CM : Hid (Calls Try.prog 62 #[.slice ua n1 uc, .int .i64 ((K : Int) + 8)] w3 fun e w' => e = .returned (.int .i64 ((K : Int) + 8 + 4 * (n1 : Int))) ∧ M.OwnPt w' lo (.slice ua n1 uc) (M.ptmarks n1 (K + 8)) ∧ w3.grownBy w' (Value.slice ua n1 uc).ownBlock) := by
          have := markPartS_own w3 lo (.slice ua n1 uc) qs (K + 8) HO3.out (by rw [← HN1.out]; omega) (by omega) (by omega)
          rw [← HN1.out] at this
          rw [show ((K + 8 : Nat) : Int) = (K : Int) + 8 by omega, show ((K + 8 + 4 * n1 : Nat) : Int) = (K : Int) + 8 + 4 * (n1 : Int) by omega] at this
          exact this
        clear hb2 hblk hR2 hw3
        rw [E3] at CM
        go_wp2_with fail
        refine CM.out.mono ?_
        rw [← E3]
        clear E3
        rintro e w4 ⟨rfl, hO4, hg4⟩
        have hblk4 := hg4.block g HR3.out.lt (fun e => HNR.out g e.symm rfl)
        have HR4 := M.hl (HR3.out.of_block hblk4)
        have CE4 : Hid (∀ j, w4.cell? ⟨g, j, none⟩ = w3.cell? ⟨g, j, none⟩) := fun j => World.cell?_of_block (a := ⟨g, j, none⟩) hblk4
        have HM4 : Hid (M.Mid lo hi w w4) := HM3.out.trans (M.Mid.of_grown hg4 (fun g' e => HUB.out g' e))
        have HE4 : Hid (M.eachD w4 lo hi (A ++ M.dmark (⟨x1, hs, x2, x3, x4, x5, x6, x7, qs⟩, .slice ua n1 uc) K :: B)) :=
          HE3.out.upd (M.apartD_congr HAPI.out (by simp [HN1.out])) rfl hg4 (by show M.OwnPt _ _ _ (M.ptmarks qs.length (K + 8)); rw [← HN1.out]; exact hO4)
        have HP4 : Hid (M.DAt w4 g (A ++ M.dmark (⟨x1, hs, x2, x3, x4, x5, x6, x7, qs⟩, .slice ua n1 uc) K :: B)) := by
          refine HPI.out.upd HAL.out (fun j hj => ?_) (fun j hj => ?_)
          · rw [CE4.out, HW3.out, M.putL_other _ _ _ (by simp only [List.length_cons, List.length_nil]; omega), CE.out, M.cox (by omega)]
          · rw [CE4.out, HW3.out]
            by_cases j0 : j = 0
            · subst j0
              rw [M.putL_other _ _ _ (by omega), CE.out, Nat.add_zero, World.cell?_setCell_same _ _ _ G0.out]
              rfl
            by_cases j8 : j = 8
            · subst j8
              rw [M.putL_other _ _ _ (by simp only [List.length_cons, List.length_nil]; omega), C8.out]
              rfl
            obtain ⟨t, rfl⟩ : ∃ t, j = t + 1 := ⟨j - 1, by omega⟩
            rw [show i * 9 + (t + 1) = i * 9 + 1 + t by omega, M.putL_same _ _ _ _ (by simp only [List.length_cons, List.length_nil]; omega) (HR2.out.cell (by omega))]
            match t, (show t < 7 by omega) with
            | 0, _ => rfl
            | 1, _ => rfl
            | 2, _ => rfl
            | 3, _ => rfl
            | 4, _ => rfl
            | 5, _ => rfl
            | 6, _ => rfl
        clear hO4 hg4 hblk4 f2 c8 g0 g1 g2 g3 g4 g5 g6 g7 f0
        go_wp2
        go_roundw
        case rel =>
          refine ⟨i + 1, K + 8 + 4 * n1, by go_num, by go_num, by omega, by omega, by omega, HKN.out.symm, HR4, ?_, ?_, HM4⟩
          · show M.DAt _ _ _
            rw [← HBB.out, HNX.out, ← HN1.out]
            exact HP4.out
          · show M.eachD _ _ _ _
            rw [← HBB.out, HNX.out, ← HN1.out]
            exact HE4.out
        case measure => simp [intOf]; omega
      · obtain rfl : i = n := by omega
        have hE1 : ps.take i = ps := List.take_of_length_le (by have := HN.out; omega)
        have hE2 : ps.drop i = [] := List.drop_of_length_le (by have := HN.out; omega)
        have h1 := HK.out
        have h2 := HPr.out
        have h3 := HEr.out
        rw [hE1, hE2, List.append_nil] at h2 h3
        rw [hE1] at h1
        have H1 := M.hl h1
        have H2 := M.hl h2
        have H3 := M.hl h3
        clear h1 h2 h3 hE1 hE2
        go_wp2
        go_ret
        refine ⟨by rw [H1.out]; rfl, ⟨?_, fun g' e => ?_, H3.out, M.apartD_congr HAP.out (M.dmarks_snd _ _).symm⟩, HMr.out⟩
        · have hlen : (M.dmarks ps k0).length = i := by rw [M.dmarks_len]; exact HN.out.symm
          have := M.drow_of (cap := cap) (lo := lo) H2.out HRr.out hb (by rw [hlen]; exact hncap) hc
          rwa [hlen] at this ⊢
        · obtain rfl := Option.some.inj e
          exact hgt
end Go.Proofs.Ytcoppfmigpdglaa
