/-
  Rows of tapes of the call's own, with one tape stored anew.
-/
import Derived.Test.YtmafkcnnhkkleaaSCopyTp
namespace Go.Proofs.Ytmafkcnnhkkleaa
open Go.RowKit

theorem M.split_at {α : Type} {l : List α} {k : Nat} {x : α} (h : l[k]? = some x) : l = l.take k ++ x :: l.drop (k + 1) := by
  rw [← M.drop_consG h, List.take_append_drop]
/-- Where the tapes of an own slice lie. -/
theorem M.OwnT.place {w : World} {lo hi g n cap : Nat} {qs : List (M.TapeD × Value)} (h : M.OwnT w lo hi (.slice (some ⟨g, 0, none⟩) n cap) qs) : qs.length = n ∧ lo ≤ g ∧ n ≤ cap ∧ cap ≤ maxLen ∧ M.Row w g 36 (cap * 4) ∧ M.PAt w g qs := by
  obtain ⟨⟨hl, ⟨e, -⟩ | ⟨g', cap', cur, e, hb, hh, hn, hc, hz, ht⟩⟩, -, -, -⟩ := h
  · cases e
  · cases e
    exact ⟨rfl, hb, hn, hc, ⟨cur, hh, hz⟩, M.pat_of hh ht⟩
/-- One tape's own numbers are stored anew. -/
theorem M.OwnT.upd {w W : World} {lo hi g n cap k : Nat} {qs : List (M.TapeD × Value)} {p q : M.TapeD × Value} (h : M.OwnT w lo hi (.slice (some ⟨g, 0, none⟩) n cap) qs) (hk : qs[k]? = some p) (hq : q.2 = p.2) (hs : q.1.ss = p.1.ss)
    (hr : M.Row W g 36 (cap * 4)) (ho : M.each W lo hi qs) (hold : ∀ j, j ≠ k * 4 → j ≠ k * 4 + 2 → j ≠ k * 4 + 3 → W.cell? ⟨g, j, none⟩ = w.cell? ⟨g, j, none⟩)
    (h0 : W.cell? ⟨g, k * 4, none⟩ = some (.int .i64 q.1.lab)) (h2 : W.cell? ⟨g, k * 4 + 2, none⟩ = some (.int .i64 q.1.syn)) (h3 : W.cell? ⟨g, k * 4 + 3, none⟩ = some (.int .i64 q.1.room)) : M.OwnT W lo hi (.slice (some ⟨g, 0, none⟩) n cap) (qs.take k ++ q :: qs.drop (k + 1)) := by
  obtain ⟨hl, hb, hn, hc, -, hp⟩ := h.place
  have hkl := (List.getElem?_eq_some_iff.1 hk).1
  have hsp := M.split_at hk
  have hlen : (qs.take k ++ q :: qs.drop (k + 1)).length = n := by
    have := congrArg List.length hsp
    simp only [List.length_append, List.length_cons] at this ⊢
    omega
  have hA : (qs.take k).length = k := by rw [List.length_take]; omega
  have hp' := hp
  rw [hsp] at hp'
  have hP : M.PAt W g (qs.take k ++ q :: qs.drop (k + 1)) := hp'.upd hA hq hold h0 h2 h3
  refine ⟨?_, h.top, fun r hr' => ?_, M.apart_congr h.apart ?_⟩
  · have := M.row_of (cap := cap) (lo := lo) hP hr hb (by rw [hlen]; exact hn) hc
    rwa [hlen] at this ⊢
  · rcases List.mem_append.1 hr' with h1 | h1
    · exact ho r (List.mem_of_mem_take h1)
    · rcases List.mem_cons.1 h1 with rfl | h2
      · have := ho p (List.mem_of_getElem? hk)
        exact ⟨by rw [hq, hs]; exact this.1, by rw [hq]; exact this.2⟩
      · exact ho r (List.mem_of_mem_drop h2)
  · conv => lhs; rw [hsp]
    simp [hq]
theorem M.OwnT.synAt {w : World} {lo hi g n cap k : Nat} {qs : List (M.TapeD × Value)} {t : M.TapeD} {u : Value} (h : M.OwnT w lo hi (.slice (some ⟨g, 0, none⟩) n cap) qs) (hk : qs[k]? = some (t, u)) (y : Int) : M.OwnT (w.setCell ⟨g, k * 4 + 2, none⟩ (.int .i64 y)) lo hi (.slice (some ⟨g, 0, none⟩) n cap) (qs.take k ++ (⟨t.lab, t.ss, y, t.room⟩, u) :: qs.drop (k + 1)) := by
  obtain ⟨hl, hb, hn, hc, hr, hp⟩ := h.place
  have hkl := (List.getElem?_eq_some_iff.1 hk).1
  obtain ⟨c0, c1, c2, c3⟩ := hp k _ hk
  refine h.upd hk rfl rfl (hr.setCell _ _) (M.each.set h.each hr _ _) (fun j _ h2 _ => M.co4 (by omega)) ?_ ?_ ?_
  · rw [M.co4 (by omega)]; exact c0
  · rw [World.cell?_setCell_same _ _ _ c2]
  · rw [M.co4 (by omega)]; exact c3
theorem M.tend_le {ps : List (M.TapeD × Value)} {k A : Nat} (h1 : ps.length ≤ 1048576) (h2 : M.tln (ps.map Prod.fst) ≤ A) (hk : k ≤ 10000000) (hA : A ≤ 2000000) : M.tend ps k ≤ 40000000 := by
  rw [M.tend_eq]; omega
end Go.Proofs.Ytmafkcnnhkkleaa
