/-
  What parts of the program's dump reader does.
-/
import Derived.Test.YtpokcbcffijheaaPart11
import Derived.Test.YtpokcbcffijheaaIDumpR
import Derived.Test.YtpokcbcffijheaaOwnPtMid
import Derived.Laws.AppendOwn
namespace Go.Proofs.Ytpokcbcffijheaa
open Go.RowKit

theorem M.rnum_le {t : ByteArray} {st : Option Nat} {b : Nat} (h : (M.rnum t st).2 = some b) : b ≤ t.size := by
  obtain ⟨a, -, s⟩ := M.rnum_span h
  exact s.2
theorem M.rtxt_le {t : ByteArray} {st : Option Nat} {b : Nat} (h : (M.rtxt t st).2 = some b) : b ≤ t.size := by
  obtain ⟨a, -, s⟩ := M.rtxt_span h
  exact s.2
theorem M.rnum_i64 (t : ByteArray) (st : Option Nat) : -9223372036854775808 ≤ (M.rnum t st).1 ∧ (M.rnum t st).1 ≤ 9223372036854775807 := by
  cases st with
  | none => show -9223372036854775808 ≤ (0 : Int) ∧ (0 : Int) ≤ 9223372036854775807; omega
  | some a =>
    unfold M.rnum
    by_cases hc : (M.num3 t (a : Int)).2.2 = 0
    · have := M.num3_ok hc
      simp only [hc, if_true]
      omega
    · simp only [hc, if_false]
      omega
theorem M.rdB_lt {W : World} {H : Nat} {t : ByteArray} {st : Option Nat} (h : M.RdB W H t st) : H < W.heap.size := by
  cases st with
  | some a =>
    have h : W.heap[H]? = some _ := h
    exact (Array.getElem?_eq_some_iff.1 h).1
  | none =>
    obtain ⟨z, c, -, h⟩ := h
    exact (Array.getElem?_eq_some_iff.1 h).1
theorem M.rdB_blk {W W' : World} {H : Nat} {t : ByteArray} {st : Option Nat} (h : M.RdB W H t st) (hb : W'.heap[H]? = W.heap[H]?) : M.RdB W' H t st := by
  cases st with
  | some a => exact hb.trans h
  | none =>
    obtain ⟨z, c, hc, h⟩ := h
    exact ⟨z, c, hc, hb.trans h⟩
theorem M.grMid {H : Nat} {w w' : World} (h : w.grownBy w' (some H)) : M.Mid H (H + 1) w w' := M.Mid.of_grown h (fun g e => by cases e; omega)
theorem iDRNum_any (w : World) (H : Nat) (t : ByteArray) (st : Option Nat) (hs : t.size ≤ 20000) (ha : ∀ a, st = some a → a ≤ t.size) (h : M.RdB w H t st) :
    Calls Try.prog 73 #[.pointer (some ⟨H, 0, none⟩)] w fun e w' => e = .returned (.int .i64 (M.rnum t st).1) ∧ M.RdB w' H t (M.rnum t st).2 ∧ M.Mid H (H + 1) w w' := by
  cases st with
  | none => exact (iDRNum_none w H t h).mono (by rintro e w' ⟨rfl, rfl⟩; exact ⟨rfl, h, M.Mid.refl _ _ _⟩)
  | some a => exact (iDRNum_some w H t a hs (Nat.le_trans (ha a rfl) hs) h).mono (by rintro e w' ⟨rfl, h1, h2⟩; exact ⟨rfl, h1, M.grMid h2⟩)
theorem iDRName_any (w : World) (H : Nat) (t : ByteArray) (st : Option Nat) (hs : t.size ≤ 20000) (ha : ∀ a, st = some a → a ≤ t.size) (h : M.RdB w H t st) :
    Calls Try.prog 74 #[.pointer (some ⟨H, 0, none⟩)] w fun e w' => e = .returned (.string (M.rtxt t st).1) ∧ M.RdB w' H t (M.rtxt t st).2 ∧ M.Mid H (H + 1) w w' := by
  cases st with
  | none => exact (iDRName_none w H t h).mono (by rintro e w' ⟨rfl, rfl⟩; exact ⟨rfl, h, M.Mid.refl _ _ _⟩)
  | some a => exact (iDRName_some w H t a hs (Nat.le_trans (ha a rfl) hs) h).mono (by rintro e w' ⟨rfl, h1, h2⟩; exact ⟨rfl, h1, M.grMid h2⟩)
/-- The parts that are read, and where that ended. -/
def M.rpts (t : ByteArray) (st : Option Nat) : List M.PartD × Option Nat := if 0 ≤ (M.rnum t st).1 ∧ (M.rnum t st).1 ≤ 8 then M.rparts t (M.rnum t st).1.toNat (M.rnum t st).2 else ([], (M.rnum t st).2)
theorem M.rparts_le {t : ByteArray} : ∀ (n : Nat) {st : Option Nat}, (∀ a, st = some a → a ≤ t.size) → ∀ a, (M.rparts t n st).2 = some a → a ≤ t.size
  | 0, _, h, a, e => h a e
  | n + 1, st, h, a, e => by
    have e : (M.rpart t (M.rparts t n st).2).2 = some a := e
    obtain ⟨_, -, s⟩ := M.rpart_span e
    exact s.2

set_option maxRecDepth 100000 in
set_option maxHeartbeats 3200000 in
theorem iDRParts_any (w : World) (H : Nat) (t : ByteArray) (st : Option Nat) (hs : t.size ≤ 20000) (ha : ∀ a, st = some a → a ≤ t.size) (h : M.RdB w H t st) :
    Calls Try.prog 75 #[.pointer (some ⟨H, 0, none⟩)] w fun e w' => ∃ v, e = .returned v ∧ M.OwnPt w' w.heap.size v (M.rpts t st).1 ∧ M.RdB w' H t (M.rpts t st).2 ∧ M.Mid H (H + 1) w w' := by
  obtain ⟨i0, hi, hz0, hz1, hz2⟩ := info_parts Try.infoPt
  have HLT := M.hl (M.rdB_lt h)
  have C0 := M.hl (iDRNum_any w H t st hs ha h)
  have CN : Hid (∀ W s, M.RdB W H t s → (∀ a, s = some a → a ≤ t.size) → Calls Try.prog 73 #[.pointer (some ⟨H, 0, none⟩)] W fun e w' => e = .returned (.int .i64 (M.rnum t s).1) ∧ M.RdB w' H t (M.rnum t s).2 ∧ M.Mid H (H + 1) W w') := fun W s hW hb => iDRNum_any W H t s hs hb hW
  have HE : Hid (M.rpts t st = if 0 ≤ (M.rnum t st).1 ∧ (M.rnum t st).1 ≤ 8 then M.rparts t (M.rnum t st).1.toNat (M.rnum t st).2 else ([], (M.rnum t st).2)) := rfl
  have h64 := M.rnum_i64 t st
  have HST : Hid (∀ a, (M.rnum t st).2 = some a → a ≤ t.size) := fun a e => M.rnum_le e
  generalize M.rpts t st = R at HE
  obtain ⟨x, s1, hx⟩ : ∃ x s1, M.rnum t st = (x, s1) := ⟨_, _, rfl⟩
  rw [hx] at C0 HE h64 HST
  simp only at C0 HE h64 HST
  have HSZ := M.hl hs
  clear h ha hx hs
  have CU : Hid (∀ W u, decide (0 ≤ x ∧ x ≤ 8) = u → Calls Try.prog 41 #[.int .i64 x, .int .i64 8] W fun e w' => e = .returned (.bool u) ∧ W = w') := fun W u hu => by rw [← hu]; exact iUpTo_any x 8 W
  by_cases h8 : 0 ≤ x ∧ x ≤ 8
  case neg =>
    have C1 : Hid (∀ W, Calls Try.prog 41 #[.int .i64 x, .int .i64 8] W fun e w' => e = .returned (.bool false) ∧ W = w') := fun W => CU.out W _ (decide_eq_false h8)
    have HE2 := M.hl (show R = ([], s1) by rw [HE.out, if_neg h8])
    rw [HE2.out]
    clear CU h8 HE HE2 h64
    go_enter Try.func75, Try.ntmps75
    go_wp2_with fail
    refine C0.out.mono ?_
    rintro e w1 ⟨rfl, hR, hm⟩
    have HR := M.hl hR
    have HM := M.hl hm
    clear hR hm
    go_wp2_with fail
    refine (C1.out _).mono ?_
    rintro e w2 ⟨rfl, rfl⟩
    go_wp2
    go_ret
    exact ⟨_, rfl, M.OwnPt.nil _ _, HR.out, HM.out⟩
  have C1 : Hid (∀ W, Calls Try.prog 41 #[.int .i64 x, .int .i64 8] W fun e w' => e = .returned (.bool true) ∧ W = w') := fun W => CU.out W _ (decide_eq_true h8)
  obtain ⟨hx0, hx8⟩ := h8
  obtain ⟨X, rfl⟩ := Int.eq_ofNat_of_zero_le hx0
  have HE2 := M.hl (show R = M.rparts t X s1 by rw [HE.out, if_pos ⟨hx0, hx8⟩, Int.toNat_natCast])
  rw [HE2.out]
  clear CU HE HE2 h64 hx0
  go_enter Try.func75, Try.ntmps75
  go_wp2_with fail
  refine C0.out.mono ?_
  rintro e w1 ⟨rfl, hR, hm⟩
  have HR := M.hl hR
  have HM := M.hl hm
  clear hR hm C0
  go_wp2_with fail
  refine (C1.out _).mono ?_
  rintro e w2 ⟨rfl, rfl⟩
  clear C1
  go_wp2
  go_loopw [4, 11] (fun v i wr => ∃ (k : Nat) (ps : List M.PartD) (va : Option Addr) (vc : Nat), i = .int .i64 k ∧ v = .slice va ps.length vc ∧ k ≤ X ∧ ps.length ≤ k ∧ Hid (ps = (M.rparts t k s1).1) ∧ Hid (M.OwnPt wr w.heap.size (.slice va ps.length vc) ps) ∧ Hid (M.RdB wr H t (M.rparts t k s1).2) ∧ Hid (M.Mid H (H + 1) w wr)) (fun _ i _ => X - (intOf i).toNat)
  case atStart => exact ⟨0, [], none, 0, rfl, rfl, Nat.zero_le _, Nat.zero_le _, rfl, M.OwnPt.nil _ _, HR, HM⟩
  case round =>
    obtain ⟨k, ps, va, vc, rfl, rfl, hk, hpl, HP, HO, HRr, HMr⟩ := hrel
    by_cases hlt : k < X
    · obtain ⟨sk, hsk⟩ : ∃ sk, sk = (M.rparts t k s1).2 := ⟨_, rfl⟩
      have hle : ∀ a, sk = some a → a ≤ t.size := by rw [hsk]; exact M.rparts_le k HST.out
      rw [← hsk] at HRr
      have CA := M.hl (CN.out wr sk HRr.out hle)
      obtain ⟨q, sa, hqa⟩ : ∃ q sa, M.rnum t sk = (q, sa) := ⟨_, _, rfl⟩
      obtain ⟨l, sb, hqb⟩ : ∃ l sb, M.rnum t sa = (l, sb) := ⟨_, _, rfl⟩
      obtain ⟨s, sc, hqc⟩ : ∃ s sc, M.rnum t sb = (s, sc) := ⟨_, _, rfl⟩
      obtain ⟨z, sd, hqd⟩ : ∃ z sd, M.rnum t sc = (z, sd) := ⟨_, _, rfl⟩
      have LA : Hid (∀ a, sa = some a → a ≤ t.size) := fun a e => M.rnum_le (st := sk) (by rw [hqa]; exact e)
      have LB : Hid (∀ a, sb = some a → a ≤ t.size) := fun a e => M.rnum_le (st := sa) (by rw [hqb]; exact e)
      have LC : Hid (∀ a, sc = some a → a ≤ t.size) := fun a e => M.rnum_le (st := sb) (by rw [hqc]; exact e)
      have CB : Hid (∀ W, M.RdB W H t sa → Calls Try.prog 73 #[.pointer (some ⟨H, 0, none⟩)] W fun e w' => e = .returned (.int .i64 l) ∧ M.RdB w' H t sb ∧ M.Mid H (H + 1) W w') := fun W hW => by have := CN.out W sa hW LA.out; rwa [hqb] at this
      have CC : Hid (∀ W, M.RdB W H t sb → Calls Try.prog 73 #[.pointer (some ⟨H, 0, none⟩)] W fun e w' => e = .returned (.int .i64 s) ∧ M.RdB w' H t sc ∧ M.Mid H (H + 1) W w') := fun W hW => by have := CN.out W sb hW LB.out; rwa [hqc] at this
      have CD : Hid (∀ W, M.RdB W H t sc → Calls Try.prog 73 #[.pointer (some ⟨H, 0, none⟩)] W fun e w' => e = .returned (.int .i64 z) ∧ M.RdB w' H t sd ∧ M.Mid H (H + 1) W w') := fun W hW => by have := CN.out W sc hW LC.out; rwa [hqd] at this
      rw [hqa] at CA
      simp only at CA
      have HNX : Hid (M.rparts t (k + 1) s1 = ((M.rparts t k s1).1 ++ [⟨q, l, s, z⟩], sd)) := by
        show _ = _
        show ((M.rparts t k s1).1 ++ [(M.rpart t (M.rparts t k s1).2).1], (M.rpart t (M.rparts t k s1).2).2) = _
        rw [← hsk]
        unfold M.rpart
        simp only [hqa, hqb, hqc, hqd]
      have HPX : Hid (ps ++ [⟨q, l, s, z⟩] = (M.rparts t (k + 1) s1).1) := by show _ = _; rw [HNX.out, HP.out]
      clear hqa hqb hqc hqd hle hsk
      go_wp2_with fail
      refine CA.out.mono ?_
      rintro e wa ⟨rfl, hR1, hm1⟩
      have RA := M.hl hR1
      have MA := M.hl (HMr.out.trans hm1)
      have OA := M.hl (M.OwnPt.mid HO.out hm1 (fun g hg => .inr (Nat.le_trans (Nat.succ_le_of_lt HLT.out) (World.ownsRow.lt HO.out g hg).1)))
      clear hR1 hm1 CA
      go_wp2_with fail
      refine (CB.out wa RA.out).mono ?_
      rintro e wb ⟨rfl, hR1, hm1⟩
      have RB := M.hl hR1
      have MB := M.hl (MA.out.trans hm1)
      have OB := M.hl (M.OwnPt.mid OA.out hm1 (fun g hg => .inr (Nat.le_trans (Nat.succ_le_of_lt HLT.out) (World.ownsRow.lt OA.out g hg).1)))
      clear hR1 hm1 CB
      go_wp2_with fail
      refine (CC.out wb RB.out).mono ?_
      rintro e wc ⟨rfl, hR1, hm1⟩
      have RC := M.hl hR1
      have MC := M.hl (MB.out.trans hm1)
      have OC := M.hl (M.OwnPt.mid OB.out hm1 (fun g hg => .inr (Nat.le_trans (Nat.succ_le_of_lt HLT.out) (World.ownsRow.lt OB.out g hg).1)))
      clear hR1 hm1 CC
      go_wp2_with fail
      refine (CD.out wc RC.out).mono ?_
      rintro e wd ⟨rfl, hR1, hm1⟩
      have RD := M.hl hR1
      have MD := M.hl (MC.out.trans hm1)
      have OD := M.hl (M.OwnPt.mid OC.out hm1 (fun g hg => .inr (Nat.le_trans (Nat.succ_le_of_lt HLT.out) (World.ownsRow.lt OC.out g hg).1)))
      have hsz := MD.out.size
      have hown := OD.out
      unfold M.OwnPt at hown
      clear hR1 hm1 CD
      go_wp2_with (at_builtin; refine wpList_append_own _ rfl (.tmp 13) (.tmp 23) 23 rfl w.heap.size 62 i0 (.agg #[.int .i64 0, .int .i64 0, .int .i64 0, .int .i64 0]) 4 32 Try.underlying23 hi hz0 hz1 hz2 rfl (by decide) _ _ _ rfl (World.ownsRow.alloc hown _) ⟨wd.heap.size, 0, none⟩ 1 1 (M.ptcells ⟨q, l, s, z⟩) rfl rfl (M.four_nt _ ⟨q, l, s, z⟩ _) ?c2 ?c3 ?c4 ?c5 ?_)
      case c2 => exact M.oneCell4t _
      case c3 => unfold maxLen; omega
      case c4 => omega
      case c5 => first | omega | (simp; omega)
      intro v' w6 hown' hgrow _
      have HO6 : Hid (M.OwnPt w6 w.heap.size v' (ps ++ [⟨q, l, s, z⟩])) := M.OwnPt.more hown'
      have hgall : wd.grownBy w6 _ := ((World.grownBy_alloc wd _ none).but _).trans hgrow
      have hgl := HLT.out
      have hHd := M.rdB_lt RD.out
      have HR6 : Hid (M.RdB w6 H t (M.rparts t (k + 1) s1).2) := by
        show M.RdB _ _ _ _
        rw [HNX.out]
        exact M.rdB_blk RD.out (hgall.block H hHd (fun e => by have := (World.ownsRow.lt hown H e.symm).1; omega))
      have HM6 : Hid (M.Mid H (H + 1) w w6) := ⟨hgall.os.trans MD.out.os, hgall.tape.trans MD.out.tape, hgall.output.trans MD.out.output, Nat.le_trans MD.out.size hgall.size, fun j hj ho => (hgall.block j (Nat.lt_of_lt_of_le hj MD.out.size) (fun e => by have := (World.ownsRow.lt hown j e.symm).1; omega)).trans (MD.out.block j hj ho)⟩
      have hl6 : (ps ++ [(⟨q, l, s, z⟩ : M.PartD)]).length = ps.length + 1 := by rw [List.length_append]; rfl
      obtain ⟨va2, vc2, hv2⟩ := HO6.out.len
      subst hv2
      clear hown hown' hgrow hgall hgl hHd hsz
      go_wp2
      go_roundw
      case rel => exact ⟨k + 1, ps ++ [⟨q, l, s, z⟩], va2, vc2, by go_num, by rw [hl6], by omega, by rw [hl6]; omega, HPX, HO6, HR6, HM6⟩
      case measure => simp [intOf]; omega
    · obtain rfl : k = X := by omega
      go_wp2
      go_ret
      exact ⟨_, rfl, by rw [← HP.out]; exact HO.out, HRr.out, HMr.out⟩
end Go.Proofs.Ytpokcbcffijheaa
