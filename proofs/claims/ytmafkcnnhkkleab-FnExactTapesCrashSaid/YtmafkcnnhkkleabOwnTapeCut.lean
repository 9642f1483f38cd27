/-
  Rows of tapes of the call's own, with the blocks of one tape made shorter.
-/
import Derived.Test.YtmafkcnnhkkleabOwnTapeUp
namespace Go.Proofs.Ytmafkcnnhkkleab
open Go.RowKit

theorem M.OwnS.short {w : World} {lo L c N : Nat} {a : Option Addr} {ss : List ByteArray} (h : M.OwnS w lo (.slice a L c) ss) (hN : N ≤ L) : M.OwnS w lo (.slice a N c) (ss.take N) := by
  obtain ⟨hl, ⟨e, h0⟩ | ⟨g, cap, cur, e, hb, hh, hn, hc, hz, ht⟩⟩ := h
  · cases e
    obtain rfl : ss = [] := List.length_eq_zero_iff.1 h0
    obtain rfl : N = 0 := by omega
    exact M.OwnS.nil _ _
  · cases e
    have hlen : (ss.take N).length = N := by rw [List.length_take]; omega
    refine ⟨by simp, .inr ⟨g, _, cur, by rw [hlen], hb, hh, by omega, hc, hz, ?_⟩⟩
    rw [hlen, Nat.mul_one, List.map_take, ← ht, Nat.mul_one, List.take_take, Nat.min_eq_left hN]
theorem M.stBt {lo H : Nat} {a b : World} (h : Below lo a b) (hH : lo ≤ H) (j : Nat) (v : Value) : Below lo a (b.setCell ⟨H, j, none⟩ v) := h.setCell hH v
theorem M.apart_congrB {ps qs : List (M.TapeD × Value)} (h : M.apart ps) (e : ps.map (fun p => p.2.ownBlock) = qs.map fun p => p.2.ownBlock) : M.apart qs := by
  have h1 : (ps.map fun p => p.2.ownBlock).Pairwise fun u v => ∀ g, u = some g → v ≠ some g := List.pairwise_map.2 h
  rw [e] at h1
  exact List.pairwise_map.1 h1
theorem M.OwnT.cut {w : World} {lo hi g n cap k : Nat} {qs : List (M.TapeD × Value)} {p : M.TapeD × Value} (h : M.OwnT w lo hi (.slice (some ⟨g, 0, none⟩) n cap) qs) (hk : qs[k]? = some p) (u : Value) (ss : List ByteArray) (y : Int) (ho : M.OwnS w lo u ss) (hb : u.ownBlock = p.2.ownBlock) :
    M.OwnT ((w.setCell ⟨g, k * 4 + 1, none⟩ u).setCell ⟨g, k * 4 + 2, none⟩ (.int .i64 y)) lo hi (.slice (some ⟨g, 0, none⟩) n cap) (qs.take k ++ (⟨p.1.lab, ss, y, p.1.room⟩, u) :: qs.drop (k + 1)) := by
  obtain ⟨hl, hlo, hn, hc, hr, hp⟩ := h.place
  have hkl := (List.getElem?_eq_some_iff.1 hk).1
  have hsp := M.split_at hk
  have hA : (qs.take k).length = k := by rw [List.length_take]; omega
  have hlen : (qs.take k ++ ((⟨p.1.lab, ss, y, p.1.room⟩ : M.TapeD), u) :: qs.drop (k + 1)).length = n := by
    have := congrArg List.length hsp
    simp only [List.length_append, List.length_cons] at this ⊢
    omega
  obtain ⟨c0, c1, c2, c3⟩ := hp k _ hk
  have hp' := hp
  rw [hsp] at hp'
  have hP1 := hp'.blk (u := u) hr hA (by omega)
  have hP2 : M.PAt ((w.setCell ⟨g, k * 4 + 1, none⟩ u).setCell ⟨g, k * 4 + 2, none⟩ (.int .i64 y)) g (qs.take k ++ (⟨p.1.lab, ss, y, p.1.room⟩, u) :: qs.drop (k + 1)) := by
    refine hP1.upd hA rfl (fun j _ h2 _ => M.co4 (by omega)) ?_ ?_ ?_
    · rw [M.co4 (by omega), M.co4 (by omega)]; exact c0
    · rw [World.cell?_setCell_same _ _ _ ((M.co4 (by omega)).trans c2)]
    · rw [M.co4 (by omega), M.co4 (by omega)]; exact c3
  have hE := M.each.set (M.each.set h.each hr (k * 4 + 1) u) (hr.setCell _ _) (k * 4 + 2) (.int .i64 y)
  have hu : M.OwnS ((w.setCell ⟨g, k * 4 + 1, none⟩ u).setCell ⟨g, k * 4 + 2, none⟩ (.int .i64 y)) lo u ss := (ho.setO (ho.notRow hr) _ _).setO (ho.notRow hr) _ _
  refine ⟨?_, h.top, fun r hr' => ?_, M.apart_congrB h.apart ?_⟩
  · have := M.row_of (cap := cap) (lo := lo) hP2 ((hr.setCell _ _).setCell _ _) hlo (by rw [hlen]; exact hn) hc
    rwa [hlen] at this ⊢
  · rcases List.mem_append.1 hr' with h1 | h1
    · exact hE r (List.mem_of_mem_take h1)
    · rcases List.mem_cons.1 h1 with rfl | h2
      · exact ⟨hu, fun g' hg' => (h.each p (List.mem_of_getElem? hk)).2 g' (by rw [← hb]; exact hg')⟩
      · exact hE r (List.mem_of_mem_drop h2)
  · conv => lhs; rw [hsp]
    simp [hb]
end Go.Proofs.Ytmafkcnnhkkleab
