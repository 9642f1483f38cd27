/-
  What l07Copy of the specification does: tapes in memory of their own.
-/
import Derived.Test.YtmafkcnnhkkleaaTapeMarks
import Derived.Test.YtmafkcnnhkkleaaIEachT
import Derived.Laws.AppendOwnNone
namespace Go.Proofs.Ytmafkcnnhkkleaa
open Go.RowKit Go.Deep

/-- The cells of a slice of tapes, as a list. -/
theorem M.Tps.cells {w : World} {ad : Addr} {n c : Nat} {ts : List M.TapeD} (h : M.Tps w (some ad) n c ts) : ∃ qs : List (M.TapeD × Value), qs.map Prod.fst = ts ∧ (∀ j u, (M.cellsT qs)[j]? = some u → w.cell? (ad.add j) = some u) ∧ ∀ p ∈ qs, ∃ a n c, p.2 = .slice a n c := by
  have hn := h.1
  have each : ∀ i, i < n → ∃ p : M.TapeD × Value, ts[i]? = some p.1 ∧ (∀ k, k < 4 → some (w.cell? (ad.add (i * 4 + k))) = (M.tcells p)[k]?.map some) ∧ ∃ a n c, p.2 = .slice a n c := by
    intro i hi
    obtain ⟨b, off, t, e, ht, c0, ⟨a', n', c', c1, -, -⟩, c2, c3⟩ := h.at hi
    obtain rfl := Option.some.inj e
    refine ⟨(t, .slice a' n' c'), ht, fun k hk => ?_, _, _, _, rfl⟩
    rw [Addr.add_lit]
    match k, hk with
    | 0, _ => rw [show off + (i * 4 + 0) = off + i * 4 by omega, c0]; rfl
    | 1, _ => rw [show off + (i * 4 + 1) = off + i * 4 + 1 by omega, c1]; rfl
    | 2, _ => rw [show off + (i * 4 + 2) = off + i * 4 + 2 by omega, c2]; rfl
    | 3, _ => rw [show off + (i * 4 + 3) = off + i * 4 + 3 by omega, c3]; rfl
  have hin : Inhabited (M.TapeD × Value) := ⟨(⟨0, [], 0, 0⟩, .bool false)⟩
  obtain ⟨F, hF⟩ := choose_lt each
  have hl : ((List.range n).map F).length = n := by simp
  refine ⟨(List.range n).map F, ?_, fun j u hj => ?_, fun p hp => ?_⟩
  · apply List.ext_getElem?
    intro i
    rw [List.map_map, List.getElem?_map]
    by_cases hi : i < n
    · rw [List.getElem?_range hi, (hF i hi).1]; rfl
    · rw [List.getElem?_eq_none (by simp; omega), List.getElem?_eq_none (by omega)]; rfl
  · have hlt : j < n * 4 := by
      have := (List.getElem?_eq_some_iff.1 hj).1
      rwa [M.cellsT_len, hl] at this
    have hq : j / 4 < n := by omega
    have e := M.cellsT_get ((List.range n).map F) (j / 4) (by rw [hl]; exact hq) (j % 4) (by omega)
    rw [show j / 4 * 4 + j % 4 = j by omega, hj] at e
    have h2 := (hF (j / 4) hq).2.1 (j % 4) (by omega)
    rw [show j / 4 * 4 + j % 4 = j by omega] at h2
    simp only [List.getElem_map, List.getElem_range] at e
    rw [← e] at h2
    simpa using h2
  · obtain ⟨i, hi, rfl⟩ := List.mem_map.1 hp
    exact (hF i (List.mem_range.1 hi)).2.2
theorem M.emptyT (W : World) (base : Nat) (h : base ≤ W.heap.size) : (W.alloc (.cells #[] 36)).ownsRow base 36 4 (.slice (some ⟨W.heap.size, 0, none⟩) 0 0) 0 [] :=
  ⟨rfl, .inr ⟨_, 0, #[], rfl, h, heap_alloc_new _ _, Nat.le_refl _, by decide, rfl, rfl⟩⟩
/-- One tape's blocks are stored anew. -/
theorem M.PAt.blk {w : World} {g k N : Nat} {T : TypeId} {A B : List (M.TapeD × Value)} {p : M.TapeD × Value} {u : Value} (h : M.PAt w g (A ++ p :: B)) (hr : M.Row w g T N) (hA : A.length = k) (hN : k * 4 + 4 ≤ N) : M.PAt (w.setCell ⟨g, k * 4 + 1, none⟩ u) g (A ++ (p.1, u) :: B) := by
  intro j r hr'
  by_cases e : j = k
  · subst e
    rw [List.getElem?_append_right (by omega), hA, Nat.sub_self] at hr'
    obtain rfl := Option.some.inj hr'
    obtain ⟨c0, -, c2, c3⟩ := h j p (by rw [List.getElem?_append_right (by omega), hA, Nat.sub_self]; rfl)
    obtain ⟨v1, g1⟩ := hr.cell (i := j * 4 + 1) (by omega)
    exact ⟨by rw [M.co4 (by omega)]; exact c0, by rw [World.cell?_setCell_same _ _ _ g1], by rw [M.co4 (by omega)]; exact c2, by rw [M.co4 (by omega)]; exact c3⟩
  · have hq : (A ++ p :: B)[j]? = some r := by
      by_cases hj : j < A.length
      · rw [List.getElem?_append_left hj] at hr' ⊢; exact hr'
      · rw [List.getElem?_append_right (by omega)] at hr' ⊢
        obtain ⟨t, ht⟩ : ∃ t, j - A.length = t + 1 := ⟨j - A.length - 1, by omega⟩
        rw [ht] at hr' ⊢
        exact hr'
    obtain ⟨c0, c1, c2, c3⟩ := h j r hq
    exact ⟨by rw [M.co4 (by omega)]; exact c0, by rw [M.co4 (by omega)]; exact c1, by rw [M.co4 (by omega)]; exact c2, by rw [M.co4 (by omega)]; exact c3⟩
theorem M.each.below {w w' : World} {lo hi hi' : Nat} {ps : List (M.TapeD × Value)} (h : M.each w lo hi ps) (hb : Below w.heap.size w w') (hh : hi ≤ hi') : M.each w' lo hi' ps := fun p hp => ⟨(h p hp).1.below hb, fun g hg => Nat.lt_of_lt_of_le ((h p hp).2 g hg) hh⟩
theorem M.drop_consG {α : Type} {l : List α} {k : Nat} {x : α} (h : l[k]? = some x) : l.drop k = x :: l.drop (k + 1) := by
  have hl := (List.getElem?_eq_some_iff.1 h).1
  rw [List.drop_eq_getElem_cons hl, (List.getElem?_eq_some_iff.1 h).2]

set_option maxRecDepth 100000 in
set_option maxHeartbeats 3200000 in
theorem sCopyTp_any (w : World) (ad : Addr) (n c : Nat) (ts : List M.TapeD) (h : M.Tps w (some ad) n c ts) (hl : n + M.tln ts ≤ 1048576) :
    Calls Try.prog 61 #[.slice (some ad) n c] w fun e w' => ∃ (v : Value) (qs : List (M.TapeD × Value)), e = .returned v ∧ qs.map Prod.fst = ts ∧ M.OwnT w' w.heap.size w'.heap.size v qs ∧ Below w.heap.size w w' := by
  obtain ⟨i0, hi, hz0, hz1, hz2⟩ := info_parts Try.infoTp
  obtain ⟨j0, hj, hy0, hy1, hy2⟩ := info_parts Try.infoTx
  have HF := M.hl h
  have HN : Hid (n = ts.length) := h.1
  have BO : Hid (∀ o, Below w.heap.size w (w.alloc o)) := fun o => (Below.refl _ _).alloc (Nat.le_refl _) _
  have hnl : n ≤ 1048576 := by omega
  clear h
  obtain ⟨qs, hq1, hq2, hq3⟩ := HF.out.cells
  have hql : qs.length = n := by rw [HN.out, ← hq1, List.length_map]
  have HQ1 := M.hl hq1
  have HQL := M.hl hql
  have HSRC : Hid (∀ o, ∀ j u, (M.cellsT qs)[j]? = some u → (w.alloc o).cell? (ad.add j) = some u) := fun o => by
    obtain ⟨qs', -, hc, -⟩ := (HF.out.below (BO.out o)).cells
    intro j u hj
    have h0 := hq2 j u hj
    have hb : ad.block < w.heap.size := by
      have := World.block_lt_of_cell? w _ h0
      unfold Addr.add at this
      split at this <;> simpa using this
    have := (BO.out o).cell (p := ad.add j) (by unfold Addr.add; split <;> simpa using hb)
    exact this.trans h0
  have HONE : Hid (∀ u ∈ M.cellsT qs, u.oneCell' = true) := fun u hu => by
    obtain ⟨p, hp, hup⟩ := List.mem_flatMap.1 hu
    obtain ⟨a1, n1, c1, e⟩ := hq3 p hp
    simp [M.tcells] at hup
    rcases hup with rfl | rfl | rfl | rfl
    · rfl
    · rw [e]; rfl
    · rfl
    · rfl
  clear hq1 hq2 hq3 hql
  go_enter Try.func61, Try.ntmps61
  go_wp2_with (at_builtin; refine wpList_append_own _ rfl (.tmp 5) (.tmp 6) 23 rfl w.heap.size 36 i0 (.agg #[.int .i64 0, .slice none 0 0, .int .i64 0, .int .i64 0]) 4 48 Try.underlying23 hi hz0 hz1 hz2 rfl (by decide) (.slice (some ⟨w.heap.size, 0, none⟩) 0 0) 0 [] rfl ?s1 ad n c (M.cellsT qs) rfl ?c1 ?s2 HONE.out ?c3 ?c4 ?c5 ?_)
  case s1 => exact M.emptyT w w.heap.size (Nat.le_refl _)
  case s2 => exact HSRC.out _
  case c1 => rw [M.cellsT_len, HQL.out]
  case c3 => unfold maxLen; omega
  case c4 => omega
  case c5 => simp
  intro v1 w1 hown hgrow hnn
  try simp only [Nat.zero_add, List.nil_append] at hown
  have B1 : Hid (Below w.heap.size w w1) := (BO.out _).grown hgrow (BO.out _).size (fun k hk => by have := Option.some.inj hk; simp at this; omega)
  obtain ⟨hl0, ⟨rfl, h0⟩ | ⟨g, cap, cur, rfl, hb, hh, hnc, hc, hz, ht⟩⟩ := hown
  · exact (hnn rfl).elim
  have HP1 : Hid (M.PAt w1 g qs) := M.pat_of hh (by rw [HQL.out]; exact ht)
  have HR1 : Hid (M.Row w1 g 36 (cap * 4)) := ⟨cur, hh, hz⟩
  clear hl0 hh hz ht hgrow hnn
  go_wp2
  go_loopw [4] (fun i wr => ∃ (k : Nat) (rs : List (M.TapeD × Value)), i = .int .i64 k ∧ k ≤ n ∧ Hid (rs.map Prod.fst = ts.take k) ∧ Hid (M.Row wr g 36 (cap * 4)) ∧ Hid (M.PAt wr g (rs ++ qs.drop k)) ∧ Hid (M.each wr w.heap.size wr.heap.size rs) ∧ Hid (M.apart rs) ∧ Hid (Below w.heap.size w wr)) (fun i _ => n - (intOf i).toNat)
  case atStart => exact ⟨0, [], rfl, Nat.zero_le _, rfl, HR1, HP1, (fun p hp => by simp at hp), List.Pairwise.nil, B1⟩
  case round =>
    obtain ⟨k, rs, rfl, hk, HM, HRr, HPr, HEr, HAr, HBr⟩ := hrel
    have hrl : rs.length = k := by
      have := congrArg List.length HM.out
      simp only [List.length_map, List.length_take] at this
      rw [← HN.out] at this
      omega
    have HRL := M.hl hrl
    by_cases hlt : k < n
    · obtain ⟨b, off, t, hadd, hfk, hat⟩ := (HF.out.below HBr.out).at hlt
      cases hadd
      have HFK := M.hl hfk
      have htl := M.tln_take hfk
      have hn1 : t.ss.length ≤ 1048576 := by
        have h2 : M.tln ts = M.tln (ts.take (k + 1)) + M.tln (ts.drop (k + 1)) := by rw [← M.tln_app, List.take_append_drop]
        omega
      have hqk : ∃ p, qs[k]? = some p ∧ p.1 = t := by
        have h1 : (qs.map Prod.fst)[k]? = some t := by rw [HQ1.out]; exact hfk
        rw [List.getElem?_map] at h1
        cases hq : qs[k]? with
        | none => rw [hq] at h1; cases h1
        | some p => rw [hq] at h1; exact ⟨p, rfl, Option.some.inj h1⟩
      obtain ⟨p, hqk, hpt⟩ := hqk
      have hPd := HPr.out
      rw [M.drop_consG hqk] at hPd
      have HPD := M.hl hPd
      have HPT := M.hl hpt
      obtain ⟨x, ss, y, z⟩ := t
      obtain ⟨c0, ⟨a', n', c', c1, hs, hnz⟩, c2, c3⟩ := hat
      simp only at c0 c1 c2 c3 hs hn1
      have hsn := hs.1
      have hszr := HBr.out.size
      have e1 := HRr.out.free (k * 4 + 1)
      obtain ⟨v1, g1⟩ := HRr.out.cell (i := k * 4 + 1) (by omega)
      have fin : ∀ (u : Value) (w6 : World), M.OwnS w6 wr.heap.size u ss → Below wr.heap.size wr w6 → ∃ rs', rs'.map Prod.fst = ts.take (k + 1) ∧ M.Row (w6.setCell ⟨g, k * 4 + 1, none⟩ u) g 36 (cap * 4) ∧ M.PAt (w6.setCell ⟨g, k * 4 + 1, none⟩ u) g (rs' ++ qs.drop (k + 1)) ∧ M.each (w6.setCell ⟨g, k * 4 + 1, none⟩ u) w.heap.size (w6.setCell ⟨g, k * 4 + 1, none⟩ u).heap.size rs' ∧ M.apart rs' ∧ Below w.heap.size w (w6.setCell ⟨g, k * 4 + 1, none⟩ u) := by
        intro u w6 hO hB
        have hR6 : M.Row w6 g 36 (cap * 4) := HRr.out.of_block (hB.block g HRr.out.lt)
        have hE6 : M.each w6 w.heap.size w6.heap.size (rs ++ [((⟨x, ss, y, z⟩ : M.TapeD), u)]) := fun q hq => by
          rcases List.mem_append.1 hq with h1 | h1
          · exact (HEr.out.below hB hB.size) q h1
          · obtain rfl := List.mem_singleton.1 h1
            exact ⟨hO.lower hszr, fun g' hg' => (World.ownsRow.lt hO g' hg').2⟩
        refine ⟨rs ++ [(⟨x, ss, y, z⟩, u)], ?_, hR6.setCell _ _, ?_, ?_, M.apart_snoc HAr.out (fun q hq g' hg' e => ?_), (HBr.out.trans (hB.mono hszr)).setCell hb _⟩
        · rw [List.map_append, HM.out, M.take_snocG HFK.out]; rfl
        · have := (HPD.out.of_block (hB.block g HRr.out.lt)).blk (u := u) hR6 HRL.out (by omega)
          rw [HPT.out] at this
          rw [List.append_assoc]
          exact this
        · have := hE6.set hR6 (k * 4 + 1) u
          exact fun q hq => ⟨(this q hq).1, fun g' hg' => by have := (this q hq).2 g' hg'; simpa [World.setCell] using this⟩
        · have h1 := (HEr.out q hq).2 g' hg'
          have h2 := (World.ownsRow.lt hO g' e).1
          omega
      have FIN := M.hl fin
      have BX : Hid (∀ o, Below wr.heap.size wr (wr.alloc o)) := fun o => (Below.refl _ _).alloc (Nat.le_refl _) _
      have HS := M.hl (fun o => hs.below (BX.out o))
      have RX : Hid (∀ o, M.Row (wr.alloc o) g 36 (cap * 4)) := fun o => HRr.out.of_block ((BX.out o).block g HRr.out.lt)
      have GX : Hid (g < wr.heap.size) := HRr.out.lt
      have c1a : ∀ o, (wr.alloc o).cell? ⟨b, off + k * 4 + 1, none⟩ = some (.slice a' n' c') := fun o => ((BX.out o).cell (p := ⟨b, off + k * 4 + 1, none⟩) (World.block_lt_of_cell? wr _ c1)).trans c1
      have HSN := M.hl hsn
      have HNZ := M.hl hnz
      clear fin hfk htl hqk hpt hPd hs g1 e1 hrl hsn hnz c0 c1 c2 c3
      cases a' with
      | none =>
        obtain rfl := HNZ.out rfl
        have hn0 : n' = 0 := by have := (HS.out (.cells #[] 9)).2.1; omega
        subst hn0
        obtain rfl : ss = [] := List.length_eq_zero_iff.1 HSN.out.symm
        obtain ⟨v2, g2⟩ := (RX.out (.cells #[] 9)).cell (i := k * 4 + 1) (by omega)
        have e2 := (RX.out (.cells #[] 9)).free (k * 4 + 1)
        have HOE : Hid (M.OwnS (wr.alloc (.cells #[] 9)) wr.heap.size (.slice (some ⟨wr.heap.size, 0, none⟩) 0 0) []) := M.empty_row wr 9 wr.heap.size (Nat.le_refl _)
        go_wp2_with (at_builtin; refine wpList_append_own_none rfl (.tmp 16) (.tmp 21) 34 rfl wr.heap.size 9 j0 1 Try.underlying34 hj (.slice (some ⟨wr.heap.size, 0, none⟩) 0 0) 0 [] rfl HOE.out rfl ?_)
        obtain ⟨rs', h1, h2, h3, h4, h5, h6⟩ := FIN.out _ _ HOE.out (BX.out _)
        have H1 := M.hl h1
        have H2 := M.hl h2
        have H3 := M.hl h3
        have H4 := M.hl h4
        have H5 := M.hl h5
        have H6 := M.hl h6
        clear h1 h2 h3 h4 h5 h6
        go_wp2
        go_roundw
        case rel => exact ⟨k + 1, rs', by go_num, by omega, H1, H2, H3, H4, H5, H6⟩
        case measure => simp [intOf]; omega
      | some ad' =>
        have HSS : Hid (∀ o, ∀ j u, (ss.map Value.string)[j]? = some u → (wr.alloc o).cell? (ad'.add j) = some u) := fun o => (HS.out o).src
        go_wp2_with (at_builtin; refine wpList_append_own _ rfl (.tmp 16) (.tmp 21) 34 rfl wr.heap.size 9 j0 (.string ⟨#[]⟩) 1 16 Try.underlying34 hj hy0 hy1 hy2 rfl (by decide) (.slice (some ⟨wr.heap.size, 0, none⟩) 0 0) 0 [] rfl ?s1 ad' n' c' (ss.map Value.string) rfl ?c1 ?s2 ?c2 ?c3 ?c4 ?c5 ?_)
        case s1 => exact M.empty_row wr 9 wr.heap.size (Nat.le_refl _)
        case s2 => exact HSS.out _
        case c1 => rw [List.length_map, Nat.mul_one]; exact HSN.out.symm
        case c2 => exact fun u hu => by obtain ⟨z, _, rfl⟩ := List.mem_map.1 hu; rfl
        case c3 => have := HSN.out; unfold maxLen; omega
        case c4 => have := HSN.out; omega
        case c5 => simp
        intro v w6 hown hg _
        have O6 : M.OwnS w6 wr.heap.size v ss := by
          show World.ownsRow _ _ _ _ _ _ _
          rw [← HSN.out]
          simpa using hown
        obtain ⟨va, vc, rfl⟩ := O6.len
        have B6 : Below wr.heap.size wr w6 := (BX.out _).grown hg (BX.out _).size (fun j hj => by have := Option.some.inj hj; simp at this; omega)
        obtain ⟨v2, g2⟩ := ((HRr.out.of_block (B6.block g GX.out)) : M.Row w6 g 36 (cap * 4)).cell (i := k * 4 + 1) (by omega)
        have e2 := ((HRr.out.of_block (B6.block g GX.out)) : M.Row w6 g 36 (cap * 4)).free (k * 4 + 1)
        obtain ⟨rs', h1, h2, h3, h4, h5, h6⟩ := FIN.out _ w6 O6 B6
        have H1 := M.hl h1
        have H2 := M.hl h2
        have H3 := M.hl h3
        have H4 := M.hl h4
        have H5 := M.hl h5
        have H6 := M.hl h6
        clear h1 h2 h3 h4 h5 h6 hown hg O6 B6
        go_wp2
        go_roundw
        case rel => exact ⟨k + 1, rs', by go_num, by omega, H1, H2, H3, H4, H5, H6⟩
        case measure => simp [intOf]; omega
    · have hlk : k = n := by omega
      subst hlk
      have HM2 : Hid (rs.map Prod.fst = ts) := by have := HM.out; rwa [List.take_of_length_le (by have := HN.out; omega)] at this
      have HP2 := HPr.out
      rw [List.drop_of_length_le (by rw [HQL.out]; exact Nat.le_refl _), List.append_nil] at HP2
      have HP3 := M.hl HP2
      clear HP2 hrl
      go_wp2
      go_ret
      refine ⟨_, rs, rfl, HM2.out, ⟨?_, fun g' hg' => ?_, HEr.out, HAr.out⟩, HBr.out⟩
      · have := M.row_of (cap := cap) (lo := w.heap.size) HP3.out HRr.out hb (by rw [HRL.out]; exact hnc) hc
        rwa [HRL.out] at this ⊢
      · obtain rfl := Option.some.inj hg'
        exact HRr.out.lt
end Go.Proofs.Ytmafkcnnhkkleaa
