/-
  What strings.Clone and textsCopy of the program do.
-/
import Derived.Test.YtmafkcnnhkkleaaCloneT
import Derived.Test.YtmafkcnnhkkleaaOwnStr
import Derived.Test.YtmafkcnnhkkleaaLinkMath
namespace Go.Proofs.Ytmafkcnnhkkleaa
open Go.RowKit

set_option maxRecDepth 100000 in
set_option maxHeartbeats 1600000 in
theorem iCopyT_any (w : World) (a : Option Addr) (len cap : Nat) (ss : List ByteArray) (h : M.Strs w a len cap ss) (hok : ∀ s ∈ ss, s.size ≤ 100000000) (hlen : len ≤ 1048576) :
    Calls Try.prog 76 #[.slice a len cap] w fun e w' => ∃ v, e = .returned v ∧ M.OwnS w' w.heap.size v ss ∧ Below w.heap.size w w' := by
  obtain ⟨i0, hi, hz0, hz1, hz2⟩ := info_parts Try.infoTx
  have HN : Hid (len = ss.length) := h.1
  have HF := M.hl h
  have HOK := M.hl hok
  clear h hok
  go_enter Try.func76, Try.ntmps76
  go_wp2
  go_loopw [3, 8] (fun v i wr => ∃ k : Nat, i = .int .i64 k ∧ k ≤ len ∧ Hid (M.OwnS wr w.heap.size v (ss.take k)) ∧ Hid (Below w.heap.size w wr)) (fun _ i _ => len - (intOf i).toNat)
  case atStart => exact ⟨0, rfl, Nat.zero_le _, M.OwnS.nil _ _, Below.refl _ _⟩
  case round =>
    obtain ⟨k, rfl, hk, HO, HBr⟩ := hrel
    by_cases hlt : k < len
    · obtain ⟨hfl, _, _, hfa⟩ := HF.out.below HBr.out
      obtain ⟨b, off, rfl, hat⟩ := hfa (by omega)
      have c0 := hat k (by omega)
      have hfk := List.getElem?_eq_getElem (l := ss) (i := k) (by omega)
      generalize ss[k]'(by omega) = s at c0 hfk
      have HFK := M.hl hfk
      have o1 : s.size ≤ 100000000 := HOK.out s (List.mem_of_getElem? hfk)
      have hac : (ss.take k).length = k := by rw [List.length_take]; omega
      have HC := M.hl (fun W => iCloneT_any s W o1)
      clear hfk hat hfa hfl
      go_wp2_with fail
      refine (HC.out _).mono ?_
      rintro e w5 ⟨rfl, hb5⟩
      have O5 := HO.out.below hb5
      have B5 := HBr.out.trans (hb5.mono HBr.out.size)
      have hsz5 := B5.size
      clear hb5
      unfold M.OwnS at O5
      rw [hac] at O5
      go_wp2_with (at_builtin; refine wpList_append_own _ rfl (.tmp 12) (.tmp 15) 34 rfl w.heap.size 9 i0 (.string ⟨#[]⟩) 1 16 Try.underlying34 hi hz0 hz1 hz2 rfl (by decide) _ _ _ rfl (World.ownsRow.alloc O5 _) ⟨w5.heap.size, 0, none⟩ 1 1 [.string s] rfl rfl (M.one_n _ _ _) ?c2 ?c3 ?c4 ?c5 ?_)
      case c2 => exact M.oneCellS s
      case c3 => unfold maxLen; omega
      case c4 => omega
      case c5 => simp; omega
      intro v' w6 hown' hgrow _
      have HO6 : Hid (M.OwnS w6 w.heap.size v' (ss.take (k + 1))) := by
        show M.OwnS _ _ _ _
        rw [M.take_snocS HFK.out]
        exact M.OwnS.more (by rw [hac, List.map_take]; exact hown')
      have hgall : w5.grownBy w6 _ := ((World.grownBy_alloc w5 _ none).but _).trans hgrow
      have HB6 : Hid (Below w.heap.size w w6) := B5.grown hgall B5.size (fun j hj => (World.ownsRow.lt O5 j hj).1)
      clear hown' hgrow hgall O5 B5 hsz5 c0
      go_wp2
      go_roundw
      case rel => exact ⟨k + 1, by go_num, by omega, HO6, HB6⟩
      case measure => simp [intOf]; omega
    · have HO3 := HO.out
      rw [List.take_of_length_le (by have := HN.out; omega)] at HO3
      have HO4 := M.hl HO3
      clear HO3
      go_wp2
      go_ret
      exact ⟨_, rfl, HO4.out, HBr.out⟩
end Go.Proofs.Ytmafkcnnhkkleaa
