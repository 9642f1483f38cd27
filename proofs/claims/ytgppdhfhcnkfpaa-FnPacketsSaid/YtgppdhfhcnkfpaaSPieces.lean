/-
  What l06Pieces and PiecesOf of the specification do.
-/
import Derived.Test.YtgppdhfhcnkfpaaPcsMath
import Derived.Test.YtgppdhfhcnkfpaaSendCopy
namespace Go.Proofs.Ytgppdhfhcnkfpaa
open Go.RowKit

set_option maxRecDepth 100000 in
set_option maxHeartbeats 1600000 in
theorem sL06Pieces_any (s : ByteArray) (w : World) (hs : s.size ≤ 19200) :
    Calls Try.prog 48 #[.string s] w fun e w' => ∃ v, e = .returned v ∧ M.OwnS w' w.heap.size v (M.pieces s) ∧ Below w.heap.size w w' := by
  obtain ⟨i0, hi, hz0, hz1, hz2⟩ := info_parts Try.infoTx
  have HE : Hid (M.OwnS (w.alloc (.cells #[] 9)) w.heap.size (.slice (some ⟨w.heap.size, 0, none⟩) 0 0) []) := M.empty_row w 9 w.heap.size (Nat.le_refl _)
  go_enter Try.func48, Try.ntmps48
  go_wp2
  go_loopw [0, 3] (fun r p wr => ∃ (k o : Nat) (y : ByteArray), r = .string y ∧ y.size ≤ 19200 ∧ Hid (o = 64 * k ∧ o + y.size = s.size ∧ (k = 0 ∨ 0 < y.size) ∧ y = M.cut s o s.size) ∧ Hid (M.OwnS wr w.heap.size p (M.pcs s k)) ∧ Hid (Below w.heap.size w wr)) (fun r _ _ => M.vlen r)
  case atStart => exact ⟨0, 0, s, rfl, hs, ⟨rfl, by omega, .inl rfl, (M.cut_all s).symm⟩, HE, (Below.refl _ _).alloc (Nat.le_refl _) _⟩
  case round =>
    obtain ⟨k, o, y, rfl, hy9, HK, HO, HBr⟩ := hrel
    have hac : (M.pcs s k).length = k := M.pcs_len s k
    have hk3 : k ≤ 300 := by have := HK.out; omega
    have hsz := HBr.out.size
    have O5 := HO.out
    unfold M.OwnS at O5
    rw [hac] at O5
    by_cases hlt : 64 < y.size
    · have d1 : decide (64 < (y.size : Int)) = true := decide_eq_true (by omega)
      have hsl1 : ∀ W, (Instr.slice 9 (.string y) none (some (.int .i64 64)) none).run Try.prog W = .ok (.string (y.extract 0 64)) W := fun W => by
        have e := run_slice_string_h (P := Try.prog) (w := W) (t := 9) (s := y) Try.underlying9 .i64 64 (by omega) (by omega)
        exact e
      have hsl2 : ∀ W, (Instr.slice 9 (.string y) (some (.int .i64 64)) none none).run Try.prog W = .ok (.string (y.extract 64 y.size)) W := fun W => by
        have e := run_slice_string_l (P := Try.prog) (w := W) (t := 9) (s := y) Try.underlying9 .i64 64 (by omega) (by omega)
        exact e
      have he1 : y.extract 0 64 = M.cut s o (o + 64) := by rw [HK.out.2.2.2]; exact M.cut_head s (by have := HK.out; omega)
      have he2 : y.extract 64 y.size = M.cut s (o + 64) s.size := by
        have := M.cut_tail s (i := o) (by have := HK.out; omega)
        rw [← HK.out.2.2.2] at this
        exact this
      have hz2s : (M.cut s (o + 64) s.size).size = y.size - 64 := by rw [M.cut_size s (by have := HK.out; omega) (Nat.le_refl _)]; have := HK.out; omega
      rw [he1] at hsl1
      rw [he2] at hsl2
      obtain ⟨y1, hy1⟩ : ∃ y1, y1 = M.cut s o (o + 64) := ⟨_, rfl⟩
      obtain ⟨y2, hy2⟩ : ∃ y2, y2 = M.cut s (o + 64) s.size := ⟨_, rfl⟩
      rw [← hy1] at hsl1
      rw [← hy2] at hsl2 hz2s
      have HY1 := M.hl hy1
      have HY2 := M.hl hy2
      have HZ2 := M.hl hz2s
      clear hy1 hy2 he1 he2 hz2s
      go_wp2_with (at_builtin; refine wpList_append_own _ rfl (.tmp 8) (.tmp 11) 24 rfl w.heap.size 9 i0 (.string ⟨#[]⟩) 1 16 Try.underlying24 hi hz0 hz1 hz2 rfl (by decide) _ _ _ rfl (World.ownsRow.alloc O5 _) ⟨wr.heap.size, 0, none⟩ 1 1 [.string y1] rfl rfl (M.one_n _ _ _) ?c2 ?c3 ?c4 ?c5 ?_)
      case c2 => exact M.oneCellS y1
      case c3 => unfold maxLen; omega
      case c4 => omega
      case c5 => simp; omega
      intro v' w6 hown' hgrow _
      have HO6 : Hid (M.OwnS w6 w.heap.size v' (M.pcs s (k + 1))) := by
        show M.OwnS _ _ _ _
        rw [M.pcs_snoc, ← HK.out.1, ← HY1.out]
        exact M.OwnS.more (by rw [hac]; exact hown')
      have hgall : wr.grownBy w6 _ := ((World.grownBy_alloc wr _ none).but _).trans hgrow
      have HB6 : Hid (Below w.heap.size w w6) := HBr.out.grown hgall HBr.out.size (fun j hj => (World.ownsRow.lt O5 j hj).1)
      clear hown' hgrow hgall O5 hsl1
      go_wp2
      go_roundw
      case rel => exact ⟨k + 1, o + 64, y2, rfl, by have := HZ2.out; omega, ⟨by have := HK.out; omega, by have := HK.out; have := HZ2.out; omega, .inr (by have := HZ2.out; omega), HY2.out⟩, HO6, HB6⟩
      case measure => simp [M.vlen]; have := HZ2.out; omega
    · have d1 : decide (64 < (y.size : Int)) = false := decide_eq_false (by omega)
      go_wp2_with (at_builtin; refine wpList_append_own _ rfl (.tmp 15) (.tmp 17) 24 rfl w.heap.size 9 i0 (.string ⟨#[]⟩) 1 16 Try.underlying24 hi hz0 hz1 hz2 rfl (by decide) _ _ _ rfl (World.ownsRow.alloc O5 _) ⟨wr.heap.size, 0, none⟩ 1 1 [.string y] rfl rfl (M.one_n _ _ _) ?c2 ?c3 ?c4 ?c5 ?_)
      case c2 => exact M.oneCellS y
      case c3 => unfold maxLen; omega
      case c4 => omega
      case c5 => simp; omega
      intro v' w6 hown' hgrow _
      have HO6 : Hid (M.OwnS w6 w.heap.size v' (M.pieces s)) := by
        show M.OwnS _ _ _ _
        obtain ⟨e1, e2, e3, e4⟩ := HK.out
        rw [← M.pieces_end (k := k) (by omega) (by omega), ← e1, ← e4]
        exact M.OwnS.more (by rw [hac]; exact hown')
      have hgall : wr.grownBy w6 _ := ((World.grownBy_alloc wr _ none).but _).trans hgrow
      have HB6 : Hid (Below w.heap.size w w6) := HBr.out.grown hgall HBr.out.size (fun j hj => (World.ownsRow.lt O5 j hj).1)
      clear hown' hgrow hgall O5
      go_wp2
      go_ret
      exact ⟨_, rfl, HO6.out, HB6.out⟩

set_option maxHeartbeats 400000 in
theorem sPieces_any (s : ByteArray) (w : World) (hs : s.size ≤ maxLen) :
    Calls Try.prog 11 #[.string s] w fun e w' => ∃ v, e = .returned v ∧ M.OwnS w' w.heap.size v (M.piecesOf s) ∧ Below w.heap.size w w' := by
  unfold maxLen at hs
  unfold M.piecesOf
  have HE : Hid (M.OwnS (w.alloc (.cells #[] 9)) w.heap.size (.slice (some ⟨w.heap.size, 0, none⟩) 0 0) []) := M.empty_row w 9 w.heap.size (Nat.le_refl _)
  by_cases hbig : 19200 < s.size
  · rw [if_pos hbig]
    have d0 : decide (19200 < (s.size : Int)) = true := decide_eq_true (by omega)
    by_cases hb2 : 20000 < s.size
    · have d1 : decide (20000 < (s.size : Int)) = true := decide_eq_true (by omega)
      go_enter Try.func11, Try.ntmps11
      go_wp2
      go_ret
      exact ⟨_, rfl, HE.out, (Below.refl _ _).alloc (Nat.le_refl _) _⟩
    · have d1 : decide (20000 < (s.size : Int)) = false := decide_eq_false (by omega)
      go_enter Try.func11, Try.ntmps11
      go_wp2
      go_ret
      exact ⟨_, rfl, HE.out, (Below.refl _ _).alloc (Nat.le_refl _) _⟩
  rw [if_neg hbig]
  have d0 : decide (19200 < (s.size : Int)) = false := decide_eq_false (by omega)
  have d1 : decide (20000 < (s.size : Int)) = false := decide_eq_false (by omega)
  have CP := M.hl (sL06Pieces_any s w (by omega))
  go_enter Try.func11, Try.ntmps11
  go_wp2_with fail
  refine CP.out.mono ?_
  rintro e w1 ⟨v, rfl, hO, hb⟩
  have O1 := M.hl hO
  have B1 := M.hl hb
  clear hO hb
  go_wp2
  go_ret
  exact ⟨_, rfl, O1.out, B1.out⟩
end Go.Proofs.Ytgppdhfhcnkfpaa
