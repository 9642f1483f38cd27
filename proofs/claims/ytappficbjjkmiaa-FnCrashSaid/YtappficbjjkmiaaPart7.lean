/-
  What strings.Clone and textsCopy of the program do.
-/
import Derived.Test.YtappficbjjkmiaaCloneT
import Derived.Test.YtappficbjjkmiaaPart4
import Derived.Test.YtappficbjjkmiaaPart6
namespace Go.Proofs.Ytappficbjjkmiaa
open Go.RowKit

set_option maxRecDepth 100000 in
set_option maxHeartbeats 1600000 in
theorem iCopyT_any (w : World) (a : Option Addr) (len cap : Nat) (ss : List ByteArray) (h : M.Strs w a len cap ss) (hok : ∀ s ∈ ss, s.size ≤ 100000000) (hlen : len ≤ 1048576) :
    Calls Try.prog 76 #[.slice a len cap] w fun e w' => ∃ v, e = .returned v ∧ M.OwnS w' w.heap.size v ss ∧ Below w.heap.size w w' := by
  obtain ⟨i0, hi, hz0, hz1, hz2⟩ := info_parts Try.infoTx
  have HN : Hid (len = ss.length) := h.1
  have HF := M.hl h
  have HOK := M.hl hok
  clear h hok
  go_enter Try.func76, Try.ntmps76
  go_wp2
  go_loopw [3, 8] (fun v i wr => ∃ k : Nat, i = .int .i64 k ∧ k ≤ len ∧ Hid (M.OwnS wr w.heap.size v (ss.take k)) ∧ Hid (Below w.heap.size w wr)) (fun _ i _ => len - (intOf i).toNat)
  case atStart => exact ⟨0, rfl, Nat.zero_le _, M.OwnS.nil _ _, Below.refl _ _⟩
  case round =>
    obtain ⟨k, rfl, hk, HO, HBr⟩ := hrel
    by_cases hlt : k < len
    · obtain ⟨hfl, _, _, hfa⟩ := HF.out.below HBr.out
      obtain ⟨b, off, rfl, hat⟩ := hfa (by omega)
      have c0 := hat k (by omega)
      have hfk := List.getElem?_eq_getElem (l := ss) (i := k) (by omega)
      generalize ss[k]'(by omega) = s at c0 hfk
      have HFK := M.hl hfk
      have o1 : s.size ≤ 100000000 := HOK.out s (List.mem_of_getElem? hfk)
      have hac : (ss.take k).length = k := by rw [List.length_take]; omega
      have HC := M.hl (fun W => iCloneT_any s W o1)
      clear hfk hat hfa hfl
      go_wp2_with fail
      refine (HC.out _).mono ?_
      rintro e w5 ⟨rfl, hb5⟩
      have O5 := HO.out.below hb5
      have B5 := HBr.out.trans (hb5.mono HBr.out.size)
      have hsz5 := B5.size
      clear hb5
      unfold M.OwnS at O5
      rw [hac] at O5
      go_wp2_with (at_builtin; refine wpList_append_own _ rfl (.tmp 12) (.tmp 15) 34 rfl w.heap.size 9 i0 (.string ⟨#[]⟩) 1 16 Try.underlying34 hi hz0 hz1 hz2 rfl (by decide) _ _ _ rfl (World.ownsRow.alloc O5 _) ⟨w5.heap.size, 0, none⟩ 1 1 [.string s] rfl rfl (M.one_n _ _ _) ?c2 ?c3 ?c4 ?c5 ?_)
      case c2 => exact M.oneCellS s
      case c3 => unfold maxLen; omega
      case c4 => omega
      case c5 => simp; omega
      intro v' w6 hown' hgrow _
      have HO6 : Hid (M.OwnS w6 w.heap.size v' (ss.take (k + 1))) := by
        show M.OwnS _ _ _ _
        rw [M.take_snocS HFK.out]
        exact M.OwnS.more (by rw [hac, List.map_take]; exact hown')
      have hgall : w5.grownBy w6 _ := ((World.grownBy_alloc w5 _ none).but _).trans hgrow
      have HB6 : Hid (Below w.heap.size w w6) := B5.grown hgall B5.size (fun j hj => (World.ownsRow.lt O5 j hj).1)
      clear hown' hgrow hgall O5 B5 hsz5 c0
      go_wp2
      go_roundw
      case rel => exact ⟨k + 1, by go_num, by omega, HO6, HB6⟩
      case measure => simp [intOf]; omega
    · have HO3 := HO.out
      rw [List.take_of_length_le (by have := HN.out; omega)] at HO3
      have HO4 := M.hl HO3
      clear HO3
      go_wp2
      go_ret
      exact ⟨_, rfl, HO4.out, HBr.out⟩
end Go.Proofs.Ytappficbjjkmiaa

/-
  What copied and synced of the program's tapes do: tapes in memory of their own.
-/
namespace Go.Proofs.Ytappficbjjkmiaa
open Go.RowKit

set_option maxRecDepth 100000 in
set_option maxHeartbeats 1600000 in
theorem iCopied_any (w : World) (a : Option Addr) (n c : Nat) (ss : List ByteArray) (x y z : Int) (h : M.Strs w a n c ss) (hok : ∀ s ∈ ss, s.size ≤ 100000000) (hl : n ≤ 1048576) :
    Calls Try.prog 50 #[.agg #[.int .i64 x, .slice a n c, .int .i64 y, .int .i64 z]] w fun e w' => ∃ v, e = .returned (.agg #[.int .i64 x, v, .int .i64 y, .int .i64 z]) ∧ M.OwnS w' w.heap.size v ss ∧ Below w.heap.size w w' := by
  have HB : Hid (∀ o1 o2, Below w.heap.size w ((w.alloc o1).alloc o2)) := fun o1 o2 => ((Below.refl _ _).alloc (Nat.le_refl _) _).alloc (by simp) _
  have CS : Hid (∀ o1 o2, Calls Try.prog 76 #[.slice a n c] ((w.alloc o1).alloc o2) fun e w' => ∃ v, e = .returned v ∧ M.OwnS w' (w.heap.size + 1 + 1) v ss ∧ Below ((w.alloc o1).alloc o2).heap.size ((w.alloc o1).alloc o2) w') := fun o1 o2 => by
    have := iCopyT_any ((w.alloc o1).alloc o2) a n c ss (h.below (HB.out o1 o2)) hok hl
    simpa using this
  clear h hok
  go_enter Try.func50, Try.ntmps50
  go_wp2_with fail
  refine (CS.out _ _).mono ?_
  rintro e w1 ⟨v, rfl, hO, hb⟩
  have O1 := M.hl hO
  have B1 : Hid (Below w.heap.size w w1) := (HB.out _ _).trans (hb.mono (HB.out _ _).size)
  obtain ⟨t0, t1⟩ := M.thr2 w (.cells #[.int .i64 x, .slice a n c, .int .i64 y, .int .i64 z] 36) (.cells #[.int .i64 0, .slice none 0 0, .int .i64 0, .int .i64 0] 36)
  have u0 := (hb.block w.heap.size (by simp; omega)).trans t0
  have u1 := (hb.block (w.heap.size + 1) (by simp)).trans t1
  have k0 := M.bk_cell u0 0 (.int .i64 x) rfl
  have k1 := M.bk_cell u0 1 (.slice a n c) rfl
  have k2 := M.bk_cell u0 2 (.int .i64 y) rfl
  have k3 := M.bk_cell u0 3 (.int .i64 z) rfl
  have r0 := M.bk_cell u1 0 (.int .i64 0) rfl
  have r1 := M.bk_cell u1 1 (.slice none 0 0) rfl
  have r2 := M.bk_cell u1 2 (.int .i64 0) rfl
  have r3 := M.bk_cell u1 3 (.int .i64 0) rfl
  have fk := M.bk_free u0
  have fr := M.bk_free u1
  obtain ⟨a', cap', rfl⟩ := hO.len
  clear hO hb t0 t1 u0 u1
  go_wp2
  refine bodyPost_ret (v := .agg #[.int .i64 x, .slice a' ss.length cap', .int .i64 y, .int .i64 z]) (by simp [results, Try.results50, go_sem, r0, r1, r2, r3]) rfl ⟨_, rfl, ?_, ?_⟩
  · exact (((((O1.out.setLow (by omega) _ _).setLow (by omega) _ _).setLow (by omega) _ _).setLow (by omega) _ _).setLow (by omega) _ _).lower (by omega)
  · exact ((((B1.out.setCell (by simp) _).setCell (by simp) _).setCell (by simp) _).setCell (by simp) _).setCell (by simp) _

set_option maxRecDepth 100000 in
set_option maxHeartbeats 1600000 in
theorem iSynced_any (w : World) (a : Option Addr) (n c : Nat) (ss : List ByteArray) (x y z : Int) (h : M.Strs w a n c ss) (hok : ∀ s ∈ ss, s.size ≤ 100000000) (hl : n ≤ 1048576) :
    Calls Try.prog 60 #[.agg #[.int .i64 x, .slice a n c, .int .i64 y, .int .i64 z]] w fun e w' => ∃ v, e = .returned (.agg #[.int .i64 x, v, .int .i64 (ss.length : Int), .int .i64 z]) ∧ M.OwnS w' w.heap.size v ss ∧ Below w.heap.size w w' := by
  have HB : Hid (∀ o1 o2, Below w.heap.size w ((w.alloc o1).alloc o2)) := fun o1 o2 => ((Below.refl _ _).alloc (Nat.le_refl _) _).alloc (by simp) _
  have hn : n = ss.length := h.1
  subst hn
  have hlm : ss.length ≤ 9223372036854775807 := by omega
  have CS : Hid (∀ o1 o2, Calls Try.prog 50 #[.agg #[.int .i64 x, .slice a ss.length c, .int .i64 (ss.length : Int), .int .i64 z]] ((w.alloc o1).alloc o2) fun e w' => ∃ v, e = .returned (.agg #[.int .i64 x, v, .int .i64 (ss.length : Int), .int .i64 z]) ∧ M.OwnS w' (w.heap.size + 1 + 1) v ss ∧ Below ((w.alloc o1).alloc o2).heap.size ((w.alloc o1).alloc o2) w') := fun o1 o2 => by
    have := iCopied_any ((w.alloc o1).alloc o2) a ss.length c ss x (ss.length : Int) z (h.below (HB.out o1 o2)) hok hl
    simpa using this
  clear h hok
  generalize hL : ss.length = L at CS hl hlm ⊢
  have HL := M.hl hL
  clear hL
  go_enter Try.func60, Try.ntmps60
  go_wp2_with fail
  refine (CS.out _ _).mono ?_
  rintro e w1 ⟨v, rfl, hO, hb⟩
  have O1 := M.hl hO
  have B1 : Hid (Below w.heap.size w w1) := (HB.out _ _).trans (hb.mono (HB.out _ _).size)
  obtain ⟨t0, t1⟩ := M.thr2 w (.cells #[.int .i64 x, .slice a L c, .int .i64 (L : Int), .int .i64 z] 36) (.cells #[.int .i64 0, .slice none 0 0, .int .i64 0, .int .i64 0] 36)
  have u1 := (hb.block (w.heap.size + 1) (by simp)).trans t1
  have r0 := M.bk_cell u1 0 (.int .i64 0) rfl
  have r1 := M.bk_cell u1 1 (.slice none 0 0) rfl
  have r2 := M.bk_cell u1 2 (.int .i64 0) rfl
  have r3 := M.bk_cell u1 3 (.int .i64 0) rfl
  have fr := M.bk_free u1
  obtain ⟨a', cap', e'⟩ := hO.len
  rw [HL.out] at e'
  subst e'
  clear hO hb t0 t1 u1
  go_wp2
  refine bodyPost_ret (v := .agg #[.int .i64 x, .slice a' L cap', .int .i64 (L : Int), .int .i64 z]) (by simp [results, Try.results60, go_sem, r0, r1, r2, r3]) rfl ⟨_, rfl, ?_, ?_⟩
  · exact ((((O1.out.setLow (by omega) _ _).setLow (by omega) _ _).setLow (by omega) _ _).setLow (by omega) _ _).lower (by omega)
  · exact (((B1.out.setCell (by simp) _).setCell (by simp) _).setCell (by simp) _).setCell (by simp) _
end Go.Proofs.Ytappficbjjkmiaa
