/-
  What l01Split of the specification does: the parts of a text between the bytes d.
-/
import Derived.Test.YtbmbcfnlpbbapagDoorRows
import Derived.Test.YtbmbcfnlpbbapagDoorPathMath
import Derived.WalkKit
import Derived.WalkSpells
import Derived.WalkLawsBesides
import Derived.Lib.Strings
namespace Go.Proofs.YtbmbcfnlpbbapagDoor
open Go.RowKit

theorem Tryd.infoS : (Tryd.prog.info? 9).map (fun i => (i.zero, i.size, i.bytes)) = some (some (.string ⟨#[]⟩), 1, 16) := by kernel_rfl

set_option maxRecDepth 100000 in
set_option maxHeartbeats 1600000 in
theorem split_any (s : ByteArray) (d : UInt8) (w : World) (hs : s.size ≤ 100000) :
    Calls Tryd.prog 21 #[.string s, .int .u8 d.toNat] w fun e w' => ∃ v, e = .returned v ∧ w'.ownsRow w.heap.size 9 1 v (M.splitL d [] s.data.toList).length (M.strs (M.splitL d [] s.data.toList)) ∧ Below w.heap.size w w' := by
  obtain ⟨i0, hi, hz0, hz1, hz2⟩ := info_parts Tryd.infoS
  go_enter Tryd.func21, Tryd.ntmps21
  go_wp2
  go_loopw [5, 6, 7] (fun v fr i wr => ∃ (out : List (List UInt8)) (f k : Nat), fr = .int .i64 f ∧ i = .int .i64 k ∧ f ≤ k ∧ k ≤ s.size ∧ out.length ≤ k ∧ Hid (out ++ M.splitL d ((s.data.toList.drop f).take (k - f)) (s.data.toList.drop k) = M.splitL d [] s.data.toList) ∧ wr.ownsRow w.heap.size 9 1 v out.length (M.strs out) ∧ Below w.heap.size w wr) (fun _ _ i _ => s.size - (intOf i).toNat)
  case atStart => exact ⟨[], 0, 0, rfl, rfl, Nat.le_refl _, Nat.zero_le _, Nat.le_refl _, rfl, ⟨rfl, .inr ⟨_, 0, #[], rfl, Nat.le_refl _, heap_alloc_new _ _, Nat.le_refl _, by decide, rfl, rfl⟩⟩, (Below.refl _ _).alloc (Nat.le_refl _) _⟩
  case round =>
    obtain ⟨out, f, k, rfl, rfl, hfk, hk, hol, HE, hown, hbel⟩ := hrel
    by_cases hlt : k < s.size
    · by_cases hc : s[k] = d
      · have H2 : Hid ((out ++ [(s.data.toList.drop f).take (k - f)]) ++ M.splitL d ((s.data.toList.drop (k + 1)).take (k + 1 - (k + 1))) (s.data.toList.drop (k + 1)) = M.splitL d [] s.data.toList) := by
          have := HE.out
          rw [M.drop_at s k hlt, M.splitL_hit hc] at this
          show _ = _
          rw [← this]; simp
        have hq : (((s[k]'hlt).toNat : Int) == (d.toNat : Int)) = true := by rw [hc]; simp
        have HX : Hid (s.extract f k = ⟨((s.data.toList.drop f).take (k - f)).toArray⟩) := M.cut_mk s f k
        clear HE hc
        go_wp2_with (at_builtin; refine wpList_append_own _ rfl (.tmp 20) (.tmp 25) 37 rfl w.heap.size 9 i0 (.string ⟨#[]⟩) 1 16 Tryd.underlying37 hi hz0 hz1 hz2 rfl (by decide) _ _ _ rfl (hown.alloc _) ⟨wr.heap.size, 0, none⟩ 1 1 [.string (s.extract f k)] rfl rfl (cell_one_new _ _ _) ?c2 ?c3 ?c4 ?c5 ?_)
        case c2 => intro x hx; simp at hx; subst hx; rfl
        case c3 => unfold maxLen; omega
        case c4 => omega
        case c5 => have := hbel.size; simp; omega
        intro v' w1 hown' hgrow _
        rw [HX.out, M.strs_snoc] at hown'
        have hb1 : Below w.heap.size w w1 := (hbel.alloc hbel.size _).grown hgrow (by have := hbel.size; simp; omega) (fun k hk => (hown.lt k hk).1)
        clear hgrow hown hbel
        go_wp2
        go_roundw
        case rel => exact ⟨out ++ [(s.data.toList.drop f).take (k - f)], k + 1, k + 1, by go_num, by go_num, Nat.le_refl _, by omega, by simp; omega, H2, by rw [List.length_append]; exact hown', hb1⟩
        case measure => simp [intOf]; omega
      · have H2 : Hid (out ++ M.splitL d ((s.data.toList.drop f).take (k + 1 - f)) (s.data.toList.drop (k + 1)) = M.splitL d [] s.data.toList) := by
          have := HE.out
          rw [M.drop_at s k hlt, M.splitL_miss hc, ← M.cut_snoc s f k hfk hlt] at this
          exact this
        have hq : (((s[k]'hlt).toNat : Int) == (d.toNat : Int)) = false := beq_eq_false_iff_ne.2 (fun e => hc (UInt8.toNat_inj.1 (by omega)))
        clear HE hc
        go_wp2
        go_roundw
        case rel => exact ⟨out, f, k + 1, rfl, by go_num, by omega, by omega, by omega, H2, hown, hbel⟩
        case measure => simp [intOf]; omega
    · have H2 : Hid (out ++ [(s.data.toList.drop f).take (s.size - f)] = M.splitL d [] s.data.toList) := by
        have := HE.out
        obtain rfl : k = s.size := by omega
        rw [List.drop_of_length_le (show s.data.toList.length ≤ s.size by rw [← Lib.size_eq]; exact Nat.le_refl _), M.splitL] at this
        exact this
      have HX : Hid (s.extract f s.size = ⟨((s.data.toList.drop f).take (s.size - f)).toArray⟩) := M.cut_mk s f s.size
      clear HE
      go_wp2_with (at_builtin; refine wpList_append_own _ rfl (.tmp 29) (.tmp 33) 37 rfl w.heap.size 9 i0 (.string ⟨#[]⟩) 1 16 Tryd.underlying37 hi hz0 hz1 hz2 rfl (by decide) _ _ _ rfl (hown.alloc _) ⟨wr.heap.size, 0, none⟩ 1 1 [.string (s.extract f s.size)] rfl rfl (cell_one_new _ _ _) ?d2 ?d3 ?d4 ?d5 ?_)
      case d2 => intro x hx; simp at hx; subst hx; rfl
      case d3 => unfold maxLen; omega
      case d4 => omega
      case d5 => have := hbel.size; simp; omega
      intro v' w1 hown' hgrow _
      rw [HX.out, M.strs_snoc] at hown'
      have hb1 : Below w.heap.size w w1 := (hbel.alloc hbel.size _).grown hgrow (by have := hbel.size; simp; omega) (fun k hk => (hown.lt k hk).1)
      have HO : Hid (w1.ownsRow w.heap.size 9 1 v' (out ++ [(s.data.toList.drop f).take (s.size - f)]).length (M.strs (out ++ [(s.data.toList.drop f).take (s.size - f)]))) := by
        show World.ownsRow _ _ _ _ _ _ _
        rw [List.length_append]; exact hown'
      clear hgrow hown hbel hown'
      go_wp2
      go_ret
      exact ⟨v', rfl, by rw [← H2.out]; exact HO.out, hb1⟩
end Go.Proofs.YtbmbcfnlpbbapagDoor
