/-
  What PiecesOf of the program does.
-/
import Derived.Test.YtgppdhfhcnkfpaaPcsMath
import Derived.Test.YtgppdhfhcnkfpaaOwnStr
import Derived.Test.YtgppdhfhcnkfpaaMarkRow
import Derived.Test.YtgppdhfhcnkfpaaPart5
namespace Go.Proofs.Ytgppdhfhcnkfpaa
open Go.RowKit

theorem M.cells_conv {w : World} {g o m c : Nat} {s : ByteArray} (h : ∀ j (h : j < s.data.toList.length), w.cell? ⟨g, j, none⟩ = some (M.u8 s.data.toList[j])) (hm : o + m ≤ s.size) :
    (convert 22 9 (.slice (some ⟨g, o, none⟩) m c)).run Try.prog w = .ok (.string (M.cut s o (o + m))) w := by
  have hl : ((s.data.toList.drop o).take (o + m - o)).length = m := by
    rw [List.length_take, List.length_drop, M.lenL]; omega
  have hr := run_convert_bytes_back w 22 9 5 ⟨g, o, none⟩ c ((s.data.toList.drop o).take (o + m - o)) Try.underlying22 Try.underlying5 Try.underlying9 (fun i hi => by
    rw [hl] at hi
    rw [Addr.add_lit]
    have hlt : o + i < s.data.toList.length := by rw [M.lenL]; omega
    have := h (o + i) hlt
    rw [this]
    unfold M.u8
    simp [List.getElem_take, List.getElem_drop])
  rw [hl] at hr
  exact hr

set_option maxRecDepth 100000 in
set_option maxHeartbeats 1600000 in
theorem iPieces_any (s : ByteArray) (w : World) (hs : s.size ≤ maxLen) :
    Calls Try.prog 10 #[.string s] w fun e w' => ∃ v, e = .returned v ∧ M.OwnS w' w.heap.size v (M.piecesOf s) ∧ Below w.heap.size w w' := by
  obtain ⟨i0, hi, hz0, hz1, hz2⟩ := info_parts Try.infoTx
  have hs' := hs
  unfold maxLen at hs'
  unfold M.piecesOf
  by_cases hbig : 19200 < s.size
  · rw [if_pos hbig]
    have d0 : decide (19200 < (s.size : Int)) = true := decide_eq_true (by omega)
    go_enter Try.func10, Try.ntmps10
    go_wp2
    go_ret
    exact ⟨_, rfl, M.OwnS.nil _ _, Below.refl _ _⟩
  rw [if_neg hbig]
  have d0 : decide (19200 < (s.size : Int)) = false := decide_eq_false (by omega)
  obtain ⟨v, wc, hcv, ⟨g, cap, rfl, hg, hgl, h1, h2, h3, -⟩, hbc⟩ := M.own_of_text w s hs
  rw [M.lenL] at h1 hcv
  have H3 := M.hl h3
  have BC := M.hl hbc
  have HG := M.hl (And.intro hg hgl)
  have HW := M.hl hbc.size
  clear h3 hbc hg hgl
  go_enter Try.func10, Try.ntmps10
  go_wp2
  clear hcv
  go_loopw [3, 4] (fun p r wr => ∃ (k o m c : Nat), r = .slice (some ⟨g, o, none⟩) m c ∧ m ≤ c ∧ m ≤ s.size ∧ c ≤ maxLen ∧ Hid (o = 64 * k ∧ o + m = s.size ∧ (k = 0 ∨ 0 < m)) ∧ Hid (M.OwnS wr wc.heap.size p (M.pcs s k)) ∧ Hid (Below wc.heap.size wc wr)) (fun _ r _ => M.vlen r)
  case atStart => exact ⟨0, 0, s.size, cap, rfl, h1, Nat.le_refl _, h2, ⟨rfl, by omega, .inl rfl⟩, M.OwnS.nil _ _, Below.refl _ _⟩
  case round =>
    obtain ⟨k, o, m, c, rfl, hmc, hms, hcm, HK, HO, HBr⟩ := hrel
    have hc7 : c ≤ 9223372036854775807 := by unfold maxLen at hcm; omega
    have hac : (M.pcs s k).length = k := M.pcs_len s k
    have hk3 : k ≤ 300 := by have := HK.out; omega
    have hsz := HBr.out.size
    by_cases hlt : 64 < m
    · have d1 : decide (64 < (m : Int)) = true := decide_eq_true (by omega)
      have hsl1 : ∀ W, (Instr.slice 22 (.slice (some ⟨g, o, none⟩) m c) (some (.int .i64 0)) (some (.int .i64 64)) (some (.int .i64 64))).run Try.prog W = .ok (.slice (some ⟨g, o, none⟩) 64 64) W := fun W => by
        rw [run_slice_lhm W 22 _ m c (by kernel_rfl) .i64 .i64 .i64 0 64 64 (by omega) (by omega) (by omega) (by omega)]
        simp [go_sem, sliced]
      have hsl2 : ∀ W, (Instr.slice 22 (.slice (some ⟨g, o, none⟩) m c) (some (.int .i64 64)) none none).run Try.prog W = .ok (.slice (some ⟨g, o + 64, none⟩) (m - 64) (c - 64)) W := fun W => by
        rw [run_slice_l W 22 _ m c (by kernel_rfl) .i64 64 (by omega) (by omega)]
        simp [go_sem, sliced, show c ≠ 64 by omega]
      have hcv := M.cells_conv (w := wr) (g := g) (o := o) (m := 64) (c := 64) (s := s) (fun j hj => (HBr.out.cell (p := ⟨g, j, none⟩) HG.out.2).trans (H3.out j hj)) (by have := HK.out; omega)
      obtain ⟨y, hy⟩ : ∃ y, y = M.cut s o (o + 64) := ⟨_, rfl⟩
      rw [← hy] at hcv
      have HY := M.hl hy
      clear hy
      have O5 := HO.out
      unfold M.OwnS at O5
      rw [hac] at O5
      go_wp2_with (at_builtin; refine wpList_append_own _ rfl (.tmp 13) (.tmp 17) 24 rfl wc.heap.size 9 i0 (.string ⟨#[]⟩) 1 16 Try.underlying24 hi hz0 hz1 hz2 rfl (by decide) _ _ _ rfl (World.ownsRow.alloc O5 _) ⟨wr.heap.size, 0, none⟩ 1 1 [.string y] rfl rfl (M.one_n _ _ _) ?c2 ?c3 ?c4 ?c5 ?_)
      case c2 => exact M.oneCellS y
      case c3 => unfold maxLen; omega
      case c4 => omega
      case c5 => simp; omega
      intro v' w6 hown' hgrow _
      have HO6 : Hid (M.OwnS w6 wc.heap.size v' (M.pcs s (k + 1))) := by
        show M.OwnS _ _ _ _
        rw [M.pcs_snoc, ← HK.out.1, ← HY.out]
        exact M.OwnS.more (by rw [hac]; exact hown')
      have hgall : wr.grownBy w6 _ := ((World.grownBy_alloc wr _ none).but _).trans hgrow
      have HB6 : Hid (Below wc.heap.size wc w6) := HBr.out.grown hgall HBr.out.size (fun j hj => (World.ownsRow.lt O5 j hj).1)
      clear hown' hgrow hgall O5 hcv hsl1
      go_wp2
      go_roundw
      case rel => exact ⟨k + 1, o + 64, m - 64, c - 64, rfl, by omega, by omega, by omega, ⟨by have := HK.out; omega, by have := HK.out; omega, .inr (by omega)⟩, HO6, HB6⟩
      case measure => simp [M.vlen]; omega
    · have d1 : decide (64 < (m : Int)) = false := decide_eq_false (by omega)
      have hcv := M.cells_conv (w := wr) (g := g) (o := o) (m := m) (c := c) (s := s) (fun j hj => (HBr.out.cell (p := ⟨g, j, none⟩) HG.out.2).trans (H3.out j hj)) (by have := HK.out; omega)
      obtain ⟨y, hy⟩ : ∃ y, y = M.cut s o (o + m) := ⟨_, rfl⟩
      rw [← hy] at hcv
      have HY := M.hl hy
      clear hy
      have O5 := HO.out
      unfold M.OwnS at O5
      rw [hac] at O5
      go_wp2_with (at_builtin; refine wpList_append_own _ rfl (.tmp 21) (.tmp 24) 24 rfl wc.heap.size 9 i0 (.string ⟨#[]⟩) 1 16 Try.underlying24 hi hz0 hz1 hz2 rfl (by decide) _ _ _ rfl (World.ownsRow.alloc O5 _) ⟨wr.heap.size, 0, none⟩ 1 1 [.string y] rfl rfl (M.one_n _ _ _) ?c2 ?c3 ?c4 ?c5 ?_)
      case c2 => exact M.oneCellS y
      case c3 => unfold maxLen; omega
      case c4 => omega
      case c5 => simp; omega
      intro v' w6 hown' hgrow _
      have HO6 : Hid (M.OwnS w6 wc.heap.size v' (M.pieces s)) := by
        show M.OwnS _ _ _ _
        obtain ⟨e1, e2, e3⟩ := HK.out
        rw [← M.pieces_end (k := k) (by omega) (by omega), ← e1, ← e2, ← HY.out]
        exact M.OwnS.more (by rw [hac]; exact hown')
      have hgall : wr.grownBy w6 _ := ((World.grownBy_alloc wr _ none).but _).trans hgrow
      have HB6 : Hid (Below wc.heap.size wc w6) := HBr.out.grown hgall HBr.out.size (fun j hj => (World.ownsRow.lt O5 j hj).1)
      clear hown' hgrow hgall O5 hcv
      go_wp2
      go_ret
      refine ⟨_, rfl, ?_, BC.out.trans (HB6.out.mono HW.out)⟩
      obtain ⟨hl, h0 | ⟨g, cap, cur, hv, hg, hr⟩⟩ := HO6.out
      · exact ⟨hl, .inl h0⟩
      · exact ⟨hl, .inr ⟨g, cap, cur, hv, Nat.le_trans HW.out hg, hr⟩⟩
end Go.Proofs.Ytgppdhfhcnkfpaa
