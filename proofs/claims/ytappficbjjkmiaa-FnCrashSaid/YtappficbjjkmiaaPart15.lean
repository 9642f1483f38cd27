/-
  What TapesSync of the program does.
-/
import Derived.Test.YtappficbjjkmiaaPart8
import Derived.Test.YtappficbjjkmiaaITapesR
import Derived.Test.YtappficbjjkmiaaPart14
import Derived.Test.YtappficbjjkmiaaPart13
import Derived.Test.YtappficbjjkmiaaPart10
import Derived.Test.YtappficbjjkmiaaPart1
import Derived.Test.YtappficbjjkmiaaPart2
import Derived.Test.YtappficbjjkmiaaSTWriteO
import Derived.Deep.RegionWith
import Derived.Maps.AppendAt
namespace Go.Proofs.Ytappficbjjkmiaa
open Go.RowKit

/-- The tapes that TapesSync tells. -/
def M.syncT (ts : List M.TapeD) : List M.TapeD := if 400 < ts.length then [] else if M.tapesR ts = true then ts.map M.tsync else ts

set_option maxRecDepth 100000 in
set_option maxHeartbeats 1600000 in
theorem iSync_any (w : World) (a : Option Addr) (n c : Nat) (ts : List M.TapeD) (h : M.Tps w a n c ts) (hok : ∀ t ∈ ts, M.tok t) (hsm : ∀ t ∈ ts, ∀ s ∈ t.ss, s.size ≤ 100000000) (hl : n + M.tln ts ≤ 1048576) :
    Calls Try.prog 21 #[.slice a n c] w fun e w' => ∃ (v : Value) (qs : List (M.TapeD × Value)), e = .returned v ∧ qs.map Prod.fst = M.syncT ts ∧ M.OwnT w' w.heap.size w'.heap.size v qs ∧ Below w.heap.size w w' := by
  have HF := M.hl h
  have HSM := M.hl hsm
  have HN : Hid (n = ts.length) := h.1
  have CR := M.hl (iTapesR_any w a n c ts h hok)
  have hnl : n ≤ 1048576 := by omega
  have HL := M.hl hl
  clear h hok hsm hl
  by_cases h4 : 400 < n
  · have HE : Hid (M.syncT ts = []) := by show _ = _; unfold M.syncT; rw [if_pos (by have := HN.out; omega)]
    go_enter Try.func21, Try.ntmps21
    go_wp2
    go_ret
    exact ⟨_, [], rfl, HE.out.symm, M.OwnT.nil _ _ _, Below.refl _ _⟩
  have h4' : decide (400 < (n : Int)) = false := decide_eq_false (by omega)
  cases hr : M.tapesR ts
  · have HE : Hid (M.syncT ts = ts) := by show _ = _; unfold M.syncT; rw [if_neg (by have := HN.out; omega), hr]; rfl
    rw [hr] at CR
    clear hr
    go_enter Try.func21, Try.ntmps21
    go_wp2_with fail
    refine CR.out.mono ?_
    rintro e w1 ⟨rfl, hb⟩
    have B1 := M.hl hb
    clear hb
    go_wp2_with fail
    refine (iEachC_any w1 a n c ts (HF.out.below B1.out) HSM.out HL.out).mono ?_
    rintro e w2 ⟨v, qs, rfl, hq, hO, hb⟩
    have HQ := M.hl hq
    have HO := M.hl (hO.widen B1.out.size (Nat.le_refl _))
    have B2 := M.hl (M.sl B1.out hb)
    clear hq hO hb
    go_wp2
    go_ret
    exact ⟨v, qs, rfl, HQ.out.trans HE.out.symm, HO.out, B2.out⟩
  · have HE : Hid (M.syncT ts = ts.map M.tsync) := by show _ = _; unfold M.syncT; rw [if_neg (by have := HN.out; omega), hr]; rfl
    rw [hr] at CR
    clear hr
    go_enter Try.func21, Try.ntmps21
    go_wp2_with fail
    refine CR.out.mono ?_
    rintro e w1 ⟨rfl, hb⟩
    have B1 := M.hl hb
    clear hb
    go_wp2_with fail
    refine (iEachS_any w1 a n c ts (HF.out.below B1.out) HSM.out HL.out).mono ?_
    rintro e w2 ⟨v, qs, rfl, hq, hO, hb⟩
    have HQ := M.hl hq
    have HO := M.hl (hO.widen B1.out.size (Nat.le_refl _))
    have B2 := M.hl (M.sl B1.out hb)
    clear hq hO hb
    go_wp2
    go_ret
    exact ⟨v, qs, rfl, HQ.out.trans HE.out.symm, HO.out, B2.out⟩
end Go.Proofs.Ytappficbjjkmiaa

/-
  What TapesSync of the specification does.
-/
namespace Go.Proofs.Ytappficbjjkmiaa
open Go.RowKit

set_option maxRecDepth 100000 in
set_option maxHeartbeats 3200000 in
theorem sSync_any (w : World) (ad : Addr) (n c : Nat) (ts : List M.TapeD) (h : M.Tps w (some ad) n c ts) (hok : ∀ t ∈ ts, M.tok t) (hl : n + M.tln ts ≤ 1048576) :
    Calls Try.prog 39 #[.slice (some ad) n c] w fun e w' => ∃ (v : Value) (qs : List (M.TapeD × Value)), e = .returned v ∧ qs.map Prod.fst = M.syncT ts ∧ M.OwnT w' w.heap.size w'.heap.size v qs ∧ Below w.heap.size w w' := by
  have HF := M.hl h
  have HN : Hid (n = ts.length) := h.1
  have CR := M.hl (fun W (hW : Below w.heap.size w W) => sTapesR_any W (some ad) n c ts (h.below hW) hok)
  have hnl : n ≤ 1048576 := by omega
  have HL := M.hl hl
  clear h hok hl
  by_cases h4 : 400 < n
  · have HE : Hid (M.syncT ts = []) := by show _ = _; unfold M.syncT; rw [if_pos (by have := HN.out; omega)]
    go_enter Try.func39, Try.ntmps39
    go_wp2
    go_ret
    refine ⟨_, [], rfl, HE.out.symm, ⟨M.emptyT w w.heap.size (Nat.le_refl _), fun g hg => ?_, (fun p hp => by simp at hp), List.Pairwise.nil⟩, (Below.refl _ _).alloc (Nat.le_refl _) _⟩
    have := Option.some.inj hg
    simp at this ⊢
    omega
  have h4' : decide (400 < (n : Int)) = false := decide_eq_false (by omega)
  by_cases hz : n = 0
  · subst hz
    have HE : Hid (M.syncT ts = ts) := by
      show _ = _
      have := List.length_eq_zero_iff.1 HN.out.symm
      rw [this]
      rfl
    go_enter Try.func39, Try.ntmps39
    go_wp2_with fail
    refine (sCopyTp_any w ad 0 c ts HF.out HL.out).mono ?_
    rintro e w1 ⟨v, qs, rfl, hq, hO, hb⟩
    have hql : qs.length = 0 := by rw [HN.out, ← hq, List.length_map]
    obtain ⟨va, vc, rfl⟩ := hO.lenN hql
    have HO := M.hl hO
    have HQ := M.hl hq
    have B1 := M.hl hb
    clear hO hq hb hql
    go_wp2
    go_loopw [4] (fun i wr => i = .int .i64 0 ∧ w1 = wr) (fun _ _ => 0)
    case atStart => exact ⟨rfl, rfl⟩
    case round =>
      obtain ⟨rfl, rfl⟩ := hrel
      go_wp2
      go_ret
      exact ⟨_, qs, rfl, HQ.out.trans HE.out.symm, HO.out, B1.out⟩
  cases hr : M.tapesR ts
  · have HE : Hid (M.syncT ts = ts) := by show _ = _; unfold M.syncT; rw [if_neg (by have := HN.out; omega), hr]; rfl
    rw [hr] at CR
    clear hr
    have hpos : 0 < n := by omega
    clear hz
    go_enter Try.func39, Try.ntmps39
    go_wp2_with fail
    refine (sCopyTp_any w ad n c ts HF.out HL.out).mono ?_
    rintro e w1 ⟨v, qs, rfl, hq, hO, hb⟩
    have hql : qs.length = n := by rw [HN.out, ← hq, List.length_map]
    obtain ⟨va, vc, rfl⟩ := hO.lenN hql
    have HO := M.hl hO
    have HQ := M.hl hq
    have B1 := M.hl hb
    clear hO hq hb hql
    go_wp2
    go_loopw [4] (fun i wr => i = .int .i64 0 ∧ w1 = wr) (fun _ _ => 0)
    case atStart => exact ⟨rfl, rfl⟩
    case round =>
      obtain ⟨rfl, rfl⟩ := hrel
      go_wp2_with fail
      refine (CR.out w1 B1.out).mono ?_
      rintro e w2 ⟨rfl, hb⟩
      have HO2 := M.hl ((HO.out.below hb).widen (Nat.le_refl _) hb.size)
      have B2 := M.hl (M.sl B1.out hb)
      clear hb
      go_wp2
      go_ret
      exact ⟨_, qs, rfl, HQ.out.trans HE.out.symm, HO2.out, B2.out⟩
  · have HE : Hid (M.syncT ts = ts.map M.tsync) := by show _ = _; unfold M.syncT; rw [if_neg (by have := HN.out; omega), hr]; rfl
    rw [hr] at CR
    clear hr
    have hpos : 0 < n := by omega
    clear hz
    go_enter Try.func39, Try.ntmps39
    go_wp2_with fail
    refine (sCopyTp_any w ad n c ts HF.out HL.out).mono ?_
    rintro e w1 ⟨v, qs, rfl, hq, hO, hb⟩
    have hql : qs.length = n := by rw [HN.out, ← hq, List.length_map]
    obtain ⟨g, vc, rfl⟩ : ∃ g vc, v = .slice (some ⟨g, 0, none⟩) n vc := by
      obtain ⟨⟨-, ⟨-, h0⟩ | ⟨g, cap, cur, e, -⟩⟩, -, -, -⟩ := hO
      · omega
      · rw [hql] at e; exact ⟨g, cap, e⟩
    have HO := M.hl hO
    have HQ := M.hl hq
    have B1 := M.hl hb
    clear hO hq hb hql
    go_wp2
    go_loopw [4] (fun i wr => ∃ (k : Nat) (rs : List (M.TapeD × Value)), i = .int .i64 k ∧ k ≤ n ∧ Hid (rs.map Prod.fst = (ts.take k).map M.tsync ++ ts.drop k) ∧ Hid (M.OwnT wr w.heap.size wr.heap.size (.slice (some ⟨g, 0, none⟩) n vc) rs) ∧ Hid (Below w.heap.size w wr)) (fun i _ => n - (intOf i).toNat)
    case atStart => exact ⟨0, qs, rfl, Nat.zero_le _, HQ, HO, B1⟩
    case round =>
      obtain ⟨k, rs, rfl, hk, HM, HOr, HBr⟩ := hrel
      by_cases hlt : k < n
      · obtain ⟨t, hfk⟩ : ∃ t, ts[k]? = some t := ⟨_, List.getElem?_eq_getElem (by have := HN.out; omega)⟩
        have hrk : ∃ u, rs[k]? = some (t, u) := by
          have h1 : (rs.map Prod.fst)[k]? = some t := by
            rw [HM.out, List.getElem?_append_right (by simp; omega)]
            simp only [List.length_map, List.length_take]
            rw [List.getElem?_drop, Nat.min_eq_left (by have := HN.out; omega), Nat.sub_self]
            exact hfk
          rw [List.getElem?_map] at h1
          cases hq : rs[k]? with
          | none => rw [hq] at h1; cases h1
          | some p => rw [hq] at h1; obtain rfl := Option.some.inj h1; exact ⟨p.2, rfl⟩
        obtain ⟨u, hrk⟩ := hrk
        have HFK := M.hl hfk
        have HRK := M.hl hrk
        obtain ⟨x, ss, y, z⟩ := t
        have hss := ((HOr.out.each _ (List.mem_of_getElem? hrk)).1).len
        simp only at hss
        obtain ⟨ua, uc, rfl⟩ := hss
        have hLm : ss.length ≤ 1048576 := by
          have h1 := M.tln_take hfk
          have h2 : M.tln ts = M.tln (ts.take (k + 1)) + M.tln (ts.drop (k + 1)) := by rw [← M.tln_app, List.take_append_drop]
          have h3 := HL.out
          simp only at h1
          omega
        obtain ⟨L, hL⟩ : ∃ L, L = ss.length := ⟨_, rfl⟩
        have HLE := M.hl hL
        rw [← hL] at hLm HRK
        clear hfk hrk hL
        go_wp2_with fail
        refine (CR.out wr HBr.out).mono ?_
        rintro e w2 ⟨rfl, hb⟩
        have HO2 := M.hl ((HOr.out.below hb).widen (Nat.le_refl _) hb.size)
        have B2 := M.hl (M.sl HBr.out hb)
        obtain ⟨-, hgb, -, -, hR2, hP2⟩ := HO2.out.place
        obtain ⟨c0, c1, c2, c3⟩ := hP2 k _ HRK.out
        have f2 := hR2.free (k * 4 + 2)
        have HGB := M.hl hgb
        have HN3 := M.hl (HO2.out.synAt HRK.out (L : Int))
        clear hb hP2 hR2 c0 c3 hgb
        go_wp2
        go_roundw
        case rel =>
          refine ⟨k + 1, _, by go_num, by omega, ?_, HN3.out.widen (Nat.le_refl _) (by simp [World.setCell]), B2.out.setCell HGB.out _⟩
          show _ = _
          have hm := HM.out
          have hrl : rs.length = n := by rw [← List.length_map (f := Prod.fst), hm, HN.out]; simp; omega
          rw [List.map_append, List.map_cons, List.map_take, List.map_drop, hm, M.take_snocG HFK.out, List.map_append]
          have hk1 : ((ts.take k).map M.tsync).length = k := by rw [List.length_map, List.length_take]; have := HN.out; omega
          rw [List.take_append_of_le_length (by omega), List.take_of_length_le (by omega), List.drop_append, List.drop_of_length_le (by omega), hk1, List.nil_append, show k + 1 - k = 1 by omega, List.drop_drop]
          simp only [List.map_cons, List.map_nil, List.append_assoc, List.singleton_append, M.tsync, HLE.out]
        case measure => simp [intOf]; omega
      · obtain rfl : k = n := by omega
        have HM2 : Hid (rs.map Prod.fst = M.syncT ts) := by
          show _ = _
          rw [HM.out, HE.out, List.take_of_length_le (by have := HN.out; omega), List.drop_of_length_le (by have := HN.out; omega), List.append_nil]
        go_wp2
        go_ret
        exact ⟨_, rs, rfl, HM2.out, HOr.out, HBr.out⟩
end Go.Proofs.Ytappficbjjkmiaa

/-
  What is written onto tapes is read back by its parts; with no word of the program.
-/
namespace Go.Proofs.Ytappficbjjkmiaa
open Go.RowKit

/-- Tapes that have all that was there, and perhaps more behind it. -/
def M.ext (ts us : List M.TapeD) : Prop := us.length = ts.length ∧ ∀ (i : Nat) (t : M.TapeD), ts[i]? = some t → ∃ u : M.TapeD, us[i]? = some u ∧ u.lab = t.lab ∧ ∃ more, u.ss = t.ss ++ more
theorem M.ext.refl (ts : List M.TapeD) : M.ext ts ts := ⟨rfl, fun _ t h => ⟨t, h, rfl, [], (List.append_nil _).symm⟩⟩
theorem M.ext.trans {a b c : List M.TapeD} (h : M.ext a b) (k : M.ext b c) : M.ext a c := ⟨k.1.trans h.1, fun i t ht => by
  obtain ⟨u, hu, e1, m1, s1⟩ := h.2 i t ht
  obtain ⟨v, hv, e2, m2, s2⟩ := k.2 i u hu
  exact ⟨v, hv, e2.trans e1, m1 ++ m2, by rw [s2, s1, List.append_assoc]⟩⟩
theorem M.partB_ext {ts us : List M.TapeD} {p : M.PartD} {bs : List ByteArray} (h : M.partB ts p = some bs) (he : M.ext ts us) : M.partB us p = some bs := by
  unfold M.partB at h
  cases ht : ts[p.q.toNat]? with
  | none => rw [ht] at h; cases h
  | some t =>
    rw [ht] at h
    simp only at h
    split at h
    · next hc =>
      obtain ⟨u, hu, e1, more, e2⟩ := he.2 _ t ht
      have hb := Option.some.inj h
      unfold M.partB
      rw [hu]
      simp only
      rw [if_pos ⟨hc.1, e1.trans hc.2.1, hc.2.2.1, hc.2.2.2.1, by rw [e2, List.length_append]; have := hc.2.2.2.2; omega⟩, e2, ← hb]
      have h5 := hc.2.2.2.2
      have h3 := hc.2.2.1
      have h4 := hc.2.2.2.1
      rw [List.drop_append_of_le_length (by omega), List.take_append_of_le_length (by rw [List.length_drop]; omega)]
    · cases h
theorem M.readB_ext {ts us : List M.TapeD} (he : M.ext ts us) : ∀ {ps : List M.PartD} {L : List UInt8}, M.readB ts ps = some L → M.readB us ps = some L
  | [], _, h => h
  | p :: ps, L, h => by
    unfold M.readB at h ⊢
    cases hp : M.partB ts p with
    | none => rw [hp] at h; cases h
    | some bs =>
      rw [hp] at h
      rw [M.partB_ext hp he]
      simp only at h ⊢
      cases hr : M.readB ts ps with
      | none => rw [hr] at h; cases h
      | some K =>
        rw [M.readB_ext he hr]
        rw [hr] at h
        exact h
theorem M.bytesOf_app (a b : List ByteArray) : M.bytesOf (a ++ b) = M.bytesOf a ++ M.bytesOf b := by simp [M.bytesOf]
/-- One step of a write. -/
theorem M.wr1_read {x : M.WrS} {n : Int} (hn : 0 ≤ n) {L : List UInt8} (h : M.readB x.ts x.ps = some L) : M.ext x.ts (M.wr1 x n).ts ∧ ∃ K, M.readB (M.wr1 x n).ts (M.wr1 x n).ps = some K ∧ K ++ M.bytesOf (M.wr1 x n).bs = L ++ M.bytesOf x.bs := by
  cases ht : x.ts[n.toNat]? with
  | none =>
    have e : M.wr1 x n = x := by unfold M.wr1; rw [ht]
    rw [e]
    exact ⟨M.ext.refl _, L, h, rfl⟩
  | some t =>
    by_cases h0 : M.wrM t x.bs = 0
    · rw [M.wr1_not ht h0]
      exact ⟨M.ext.refl _, L, h, rfl⟩
    · have hlt := (List.getElem?_eq_some_iff.1 ht).1
      have hm : M.wrM t x.bs ≤ x.bs.length := by unfold M.wrM; exact Nat.min_le_right _ _
      rw [M.wr1_hit ht (Nat.pos_of_ne_zero h0)]
      have he : M.ext x.ts (x.ts.set n.toNat ⟨t.lab, t.ss ++ x.bs.take (M.wrM t x.bs), t.syn, t.room⟩) := by
        refine ⟨List.length_set, fun i u hu => ?_⟩
        by_cases hi : n.toNat = i
        · subst hi
          rw [ht] at hu
          obtain rfl := Option.some.inj hu
          exact ⟨⟨t.lab, t.ss ++ x.bs.take (M.wrM t x.bs), t.syn, t.room⟩, by rw [List.getElem?_set_self hlt], rfl, x.bs.take (M.wrM t x.bs), rfl⟩
        · exact ⟨u, by rw [List.getElem?_set_ne hi]; exact hu, rfl, [], (List.append_nil _).symm⟩
      refine ⟨he, L ++ M.bytesOf (x.bs.take (M.wrM t x.bs)), ?_, ?_⟩
      · show M.readB _ (x.ps ++ [_]) = _
        rw [M.readB_app, M.readB_ext he h]
        have hp : M.partB (x.ts.set n.toNat ⟨t.lab, t.ss ++ x.bs.take (M.wrM t x.bs), t.syn, t.room⟩) ⟨n, t.lab, t.ss.length, M.wrM t x.bs⟩ = some (x.bs.take (M.wrM t x.bs)) := by
          unfold M.partB
          simp only
          rw [List.getElem?_set_self hlt]
          simp only
          rw [if_pos ⟨hn, by trivial, by omega, by omega, by rw [List.length_append, List.length_take]; omega⟩, Int.toNat_natCast, Int.toNat_natCast, List.drop_left, List.take_take, Nat.min_self]
        simp [M.readB, hp]
      · show (L ++ M.bytesOf (x.bs.take (M.wrM t x.bs))) ++ M.bytesOf (x.bs.drop (M.wrM t x.bs)) = _
        rw [List.append_assoc, ← M.bytesOf_app, List.take_append_drop]
theorem M.wr_read : ∀ (ns : List Int) {x : M.WrS} {L : List UInt8}, (∀ n ∈ ns, 0 ≤ n) → M.readB x.ts x.ps = some L → M.ext x.ts (M.wr x ns).ts ∧ ∃ K, M.readB (M.wr x ns).ts (M.wr x ns).ps = some K ∧ K ++ M.bytesOf (M.wr x ns).bs = L ++ M.bytesOf x.bs
  | [], x, L, _, h => ⟨M.ext.refl _, L, h, rfl⟩
  | n :: ns, x, L, hn, h => by
    obtain ⟨e1, K, h1, k1⟩ := M.wr1_read (hn n (List.mem_cons_self ..)) h
    obtain ⟨e2, J, h2, k2⟩ := M.wr_read ns (x := M.wr1 x n) (fun m hm => hn m (List.mem_cons_of_mem _ hm)) h1
    exact ⟨e1.trans e2, J, h2, k2.trans k1⟩
theorem M.bytesOf_tbl (s : ByteArray) : ∀ k, 64 * k ≤ s.size → M.bytesOf (M.tbl s k) = s.data.toList.take (64 * k)
  | 0, _ => rfl
  | k + 1, h => by
    rw [M.tbl_snoc, M.bytesOf_snoc, M.bytesOf_tbl s k (by omega)]
    have hl : s.data.toList.length = s.size := M.lenL s
    unfold M.padL
    rw [List.length_drop, hl, show 64 - (s.size - 64 * k) = 0 by omega]
    simp only [List.replicate_zero, List.append_nil]
    rw [show 64 * (k + 1) = 64 * k + 64 by omega, List.take_add]
theorem M.tbl_back (s : ByteArray) : s.size ≤ (M.bytesOf (M.tbl s ((s.size + 63) / 64))).length ∧ (M.bytesOf (M.tbl s ((s.size + 63) / 64))).take s.size = s.data.toList := by
  have hl : s.data.toList.length = s.size := M.lenL s
  rcases Nat.eq_zero_or_pos s.size with h0 | h0
  · rw [h0] at hl ⊢
    exact ⟨Nat.zero_le _, by rw [List.take_zero]; exact (List.length_eq_zero_iff.1 hl).symm⟩
  · obtain ⟨j, hj⟩ : ∃ j, (s.size + 63) / 64 = j + 1 := ⟨(s.size + 63) / 64 - 1, by omega⟩
    have e : M.bytesOf (M.tbl s (j + 1)) = s.data.toList ++ List.replicate (64 - (s.size - 64 * j)) 0 := by
      rw [M.tbl_snoc, M.bytesOf_snoc, M.bytesOf_tbl s j (by omega)]
      unfold M.padL
      rw [List.length_drop, hl]
      rw [List.take_of_length_le (l := s.data.toList.drop (64 * j)) (by rw [List.length_drop, hl]; omega), ← List.append_assoc, List.take_append_drop]
    rw [hj, e]
    refine ⟨by rw [List.length_append, hl]; omega, ?_⟩
    rw [← hl, List.take_left]
/-- What was written whole is read back. -/
theorem M.tw_back {ok : Bool} {ts : List M.TapeD} {zs : List Int} {s : ByteArray} (hu : ok = true → ∀ z ∈ zs, 0 ≤ z) (h : (M.tw ok ts zs s).2.2 = 0) : M.tapesR (M.tw ok ts zs s).1 = true ∧ M.ext ts (M.tw ok ts zs s).1 ∧ M.tread (M.tw ok ts zs s).1 (M.tw ok ts zs s).2.1 (s.size : Int) = (s, 0) := by
  by_cases h1 : 400 < ts.length ∨ 400 < zs.length ∨ 20000 < s.size
  · rw [M.tw_long h1] at h; cases h
  by_cases h2 : (M.tapesR ts && ok) = true
  · by_cases h3 : (M.wr ⟨ts, [], M.tbl s ((s.size + 63) / 64)⟩ zs).bs = []
    · rw [M.tw_yes h1 h2 rfl h3]
      rw [Bool.and_eq_true] at h2
      obtain ⟨⟨n1, n8⟩, hall⟩ := M.tapesR_iff.1 h2.1
      have hrt := (M.wr_right zs (x := ⟨ts, [], M.tbl s ((s.size + 63) / 64)⟩) hall M.tbl_size).1
      have hlen : (M.wr ⟨ts, [], M.tbl s ((s.size + 63) / 64)⟩ zs).ts.length = ts.length := M.wr_len zs _
      have hps : (M.wr ⟨ts, [], M.tbl s ((s.size + 63) / 64)⟩ zs).ps.length ≤ 0 + zs.length := (M.wr_ps zs ⟨ts, [], M.tbl s ((s.size + 63) / 64)⟩).1
      obtain ⟨he, K, hK, hKK⟩ := M.wr_read zs (x := ⟨ts, [], M.tbl s ((s.size + 63) / 64)⟩) (L := []) (hu h2.2) rfl
      have hR : M.tapesR (M.wr ⟨ts, [], M.tbl s ((s.size + 63) / 64)⟩ zs).ts = true := M.tapesR_iff.2 ⟨⟨by rw [hlen]; exact n1, by rw [hlen]; exact n8⟩, hrt⟩
      refine ⟨hR, he, ?_⟩
      rw [h3] at hKK
      have hK2 : K = M.bytesOf (M.tbl s ((s.size + 63) / 64)) := by simpa [M.bytesOf_nil] using hKK
      obtain ⟨b1, b2⟩ := M.tbl_back s
      simp only
      unfold M.tread
      rw [if_neg (by rw [hlen]; omega), if_neg (by rw [hR]; intro e; rcases e with e | e; cases e; omega), hK]
      simp only
      rw [if_neg (by rw [hK2]; omega), hK2, Int.toNat_natCast, b2]
    · rw [M.tw_full h1 h2 rfl h3] at h; cases h
  · rw [M.tw_no h1 (by simpa using h2)] at h; cases h
theorem M.tw_code (ok : Bool) (ts : List M.TapeD) (zs : List Int) (s : ByteArray) : (M.tw ok ts zs s).2.2 = 0 ∨ ((M.tw ok ts zs s).1 = [] ∧ (M.tw ok ts zs s).2.1 = [] ∧ 1 ≤ (M.tw ok ts zs s).2.2) := by
  unfold M.tw
  split
  · exact .inr ⟨rfl, rfl, by decide⟩
  · split
    · split
      · exact .inl rfl
      · exact .inr ⟨rfl, rfl, by decide⟩
    · exact .inr ⟨rfl, rfl, by decide⟩
end Go.Proofs.Ytappficbjjkmiaa

/-
  What l07Tapes of the specification draws: one to three tapes, right ones as a rule.
-/
namespace Go.Proofs.Ytappficbjjkmiaa
open Go.RowKit

/-- A tape that was drawn. -/
def M.tfew (t : M.TapeD) : Prop := M.tok t ∧ t.ss.length ≤ 301 ∧ ∀ s ∈ t.ss, s.size ≤ 64
theorem M.tok_of {t : M.TapeD} (h : M.tapeR t = true) : M.tok t := by
  obtain ⟨⟨a1, a2⟩, ⟨b1, b2⟩, c, ⟨d1, d2⟩, e⟩ := M.tapeR_iff.1 h
  exact ⟨fun s hs => by rw [e s hs]; decide, ⟨by omega, by omega⟩, ⟨by omega, by omega⟩, ⟨by omega, by omega⟩⟩
theorem M.tfew_of {t : M.TapeD} (h : M.tapeR t = true) : M.tfew t := by
  obtain ⟨-, ⟨-, b2⟩, c, -, e⟩ := M.tapeR_iff.1 h
  exact ⟨M.tok_of h, by omega, fun s hs => by rw [e s hs]; exact Nat.le_refl _⟩
theorem M.tln_few301 {us : List M.TapeD} (h : ∀ t ∈ us, M.tfew t) : M.tln us ≤ 301 * us.length := by
  induction us with
  | nil => exact Nat.le_refl _
  | cons t us ih =>
    have h1 := ih (fun u hu => h u (List.mem_cons_of_mem _ hu))
    have h2 := (h t (List.mem_cons_self ..)).2.1
    have e : M.tln (t :: us) = t.ss.length + M.tln us := by simp [M.tln]
    rw [e, List.length_cons]
    omega
theorem M.OwnT.byG {w W : World} {lo hi g : Nat} {v : Value} {qs : List (M.TapeD × Value)} (h : M.OwnT w lo hi v qs) (hg : w.grownBy W (some g)) (hl : g < lo) : M.OwnT W lo hi v qs := by
  refine h.grown (u := .slice (some ⟨g, 0, none⟩) 0 0) (fun b hb => ?_) hg
  have hb' : g = b := Option.some.inj hb
  subst hb'
  exact ⟨fun e => by have := (World.ownsRow.lt h.row _ e).1; omega, fun p hp e => by have := (World.ownsRow.lt (h.each p hp).1 _ e).1; omega⟩
theorem M.OwnT.rowAt {w : World} {lo hi n : Nat} {v : Value} {qs : List (M.TapeD × Value)} (h : M.OwnT w lo hi v qs) (hn : qs.length = n) (h1 : 1 ≤ n) : ∃ g cap, v = .slice (some ⟨g, 0, none⟩) n cap := by
  obtain ⟨⟨-, ⟨-, h0⟩ | ⟨g, cap, cur, e, -⟩⟩, -, -, -⟩ := h
  · omega
  · rw [hn] at e; exact ⟨g, cap, e⟩
theorem M.OwnT.labAt {w : World} {lo hi g n cap k : Nat} {qs : List (M.TapeD × Value)} {t : M.TapeD} {u : Value} (h : M.OwnT w lo hi (.slice (some ⟨g, 0, none⟩) n cap) qs) (hk : qs[k]? = some (t, u)) (y : Int) : M.OwnT (w.setCell ⟨g, k * 4, none⟩ (.int .i64 y)) lo hi (.slice (some ⟨g, 0, none⟩) n cap) (qs.take k ++ (⟨y, t.ss, t.syn, t.room⟩, u) :: qs.drop (k + 1)) := by
  obtain ⟨hl, hb, hn, hc, hr, hp⟩ := h.place
  obtain ⟨c0, c1, c2, c3⟩ := hp k _ hk
  refine h.upd hk rfl rfl (hr.setCell _ _) (M.each.set h.each hr _ _) (fun j h1 _ _ => M.co4 (by omega)) ?_ ?_ ?_
  · rw [World.cell?_setCell_same _ _ _ c0]
  · rw [M.co4 (by omega)]; exact c2
  · rw [M.co4 (by omega)]; exact c3
theorem M.OwnT.roomAt {w : World} {lo hi g n cap k : Nat} {qs : List (M.TapeD × Value)} {t : M.TapeD} {u : Value} (h : M.OwnT w lo hi (.slice (some ⟨g, 0, none⟩) n cap) qs) (hk : qs[k]? = some (t, u)) (y : Int) : M.OwnT (w.setCell ⟨g, k * 4 + 3, none⟩ (.int .i64 y)) lo hi (.slice (some ⟨g, 0, none⟩) n cap) (qs.take k ++ (⟨t.lab, t.ss, t.syn, y⟩, u) :: qs.drop (k + 1)) := by
  obtain ⟨hl, hb, hn, hc, hr, hp⟩ := h.place
  obtain ⟨c0, c1, c2, c3⟩ := hp k _ hk
  refine h.upd hk rfl rfl (hr.setCell _ _) (M.each.set h.each hr _ _) (fun j _ _ h3 => M.co4 (by omega)) ?_ ?_ ?_
  · rw [M.co4 (by omega)]; exact c0
  · rw [M.co4 (by omega)]; exact c2
  · rw [World.cell?_setCell_same _ _ _ c3]
/-- One tape is put in the place of another: all are what each of them must be. -/
theorem M.all_put {P : M.TapeD → Prop} {qs : List (M.TapeD × Value)} {k : Nat} {q : M.TapeD × Value} (h : ∀ t ∈ qs.map Prod.fst, P t) (hq : P q.1) : ∀ t ∈ (qs.take k ++ q :: qs.drop (k + 1)).map Prod.fst, P t := fun t ht => by
  rw [List.map_append, List.map_cons] at ht
  rcases List.mem_append.1 ht with h1 | h1
  · obtain ⟨p, hp, rfl⟩ := List.mem_map.1 h1
    exact h _ (List.mem_map.2 ⟨p, List.mem_of_mem_take hp, rfl⟩)
  · rcases List.mem_cons.1 h1 with rfl | h2
    · exact hq
    · obtain ⟨p, hp, rfl⟩ := List.mem_map.1 h2
      exact h _ (List.mem_map.2 ⟨p, List.mem_of_mem_drop hp, rfl⟩)
theorem M.len_put {qs : List (M.TapeD × Value)} {k : Nat} {q : M.TapeD × Value} (hk : k < qs.length) : (qs.take k ++ q :: qs.drop (k + 1)).length = qs.length := by
  rw [List.length_append, List.length_cons, List.length_take, List.length_drop]; omega
theorem M.tsync_right {ts : List M.TapeD} (h : ∀ t ∈ ts, M.tapeR t = true) (h1 : 1 ≤ ts.length) (h8 : ts.length ≤ 8) : (M.syncT ts).length = ts.length ∧ ∀ t ∈ M.syncT ts, M.tapeR t = true := by
  unfold M.syncT
  rw [if_neg (by omega), if_pos (M.tapesR_iff.2 ⟨⟨h1, h8⟩, h⟩)]
  refine ⟨List.length_map .., fun t ht => ?_⟩
  obtain ⟨u, hu, rfl⟩ := List.mem_map.1 ht
  obtain ⟨a1, a2, a3, a4, a5⟩ := M.tapeR_iff.1 (h u hu)
  exact M.tapeR_iff.2 ⟨a1, a2, a3, ⟨Int.natCast_nonneg _, Int.le_refl _⟩, a5⟩
theorem M.tw_ok {ok : Bool} {zs : List Int} {n : Nat} (hok : ok = true ↔ M.useP n zs) : ok = true → ∀ z ∈ zs, 0 ≤ z := fun h z hz => by
  obtain ⟨i, hi, e⟩ := List.mem_iff_getElem.1 hz
  exact ((hok.1 h) i z (by rw [List.getElem?_eq_getElem hi, e])).1.1
theorem M.ok_ex (P : Prop) : ∃ ok : Bool, (ok = true ↔ P) := by
  rcases Classical.em P with h | h
  · exact ⟨true, fun _ => h, fun _ => rfl⟩
  · exact ⟨false, fun e => (by cases e), fun e => absurd e h⟩
/-- TapesWrite of the specification, as far as a draw needs it. -/
theorem sTW_draw (w : World) (h2 n c h3 c1 : Nat) (ts : List M.TapeD) (zs : List Int) (s : ByteArray) (h : M.Tps w (some ⟨h2, 0, none⟩) n c ts) (hr : ∀ t ∈ ts, M.tapeR t = true) (hn : n ≤ 8) (hz : M.NV w (some ⟨h3, 0, none⟩) zs.length zs) (hc : zs.length ≤ c1) (hs : s.size ≤ 1048576) :
    Calls Try.prog 11 #[.slice (some ⟨h2, 0, none⟩) n c, .slice (some ⟨h3, 0, none⟩) zs.length c1, .string s] w fun e w' => ∃ (v : Value) (ua : Option Addr) (un uc : Nat) (qs : List (M.TapeD × Value)) (z : Int), e = .returned (.agg #[v, .slice ua un uc, .string ⟨#[]⟩, .int .i64 z]) ∧ (z = 0 → (∀ t ∈ qs.map Prod.fst, M.tapeR t = true) ∧ qs.length = n) ∧ M.OwnT w' w.heap.size w'.heap.size v qs ∧ Below w.heap.size w w' := by
  obtain ⟨ok, hok⟩ := M.ok_ex (M.useP n zs)
  have htl := M.tln_few301 (us := ts) (fun t ht => M.tfew_of (hr t ht))
  have hnl := h.1
  refine (sTWrite_any w _ n c ts _ zs.length c1 zs s ok h (fun t ht => M.tok_of (hr t ht)) (by omega) hz hc hs hok).mono ?_
  rintro e w' ⟨v, u, qs, rfl, hq, hO, hP, hb⟩
  obtain ⟨ua, uc, rfl⟩ := hP.len
  refine ⟨v, ua, _, uc, qs, _, rfl, fun h0 => ?_, hO, hb⟩
  obtain ⟨hR, he, -⟩ := M.tw_back (M.tw_ok hok) h0
  rw [hq]
  refine ⟨(M.tapesR_iff.1 hR).2, ?_⟩
  have := congrArg List.length hq
  rw [List.length_map, he.1] at this
  omega
theorem M.OwnT.at4 {w : World} {lo hi g n cap k : Nat} {qs : List (M.TapeD × Value)} {p : M.TapeD × Value} (h : M.OwnT w lo hi (.slice (some ⟨g, 0, none⟩) n cap) qs) (hk : qs[k]? = some p) : w.cell? ⟨g, k * 4, none⟩ = some (.int .i64 p.1.lab) ∧ w.cell? ⟨g, k * 4 + 1, none⟩ = some p.2 ∧ w.cell? ⟨g, k * 4 + 2, none⟩ = some (.int .i64 p.1.syn) ∧ w.cell? ⟨g, k * 4 + 3, none⟩ = some (.int .i64 p.1.room) ∧ (∀ j, w.frozen? ⟨g, j, none⟩ = false) ∧ ∃ a c, p.2 = .slice a p.1.ss.length c := by
  obtain ⟨hl, hlo, hn, hc, ⟨cur, hh, hz⟩, hp⟩ := h.place
  obtain ⟨c0, c1, c2, c3⟩ := hp k p hk
  exact ⟨c0, c1, c2, c3, fun j => by simp [World.frozen?, hh], (h.each p (List.mem_of_getElem? hk)).1.len⟩
theorem M.tri (w : World) (T : TypeId) (a b c : Int) (k : Nat) (hk : k < 3) (ha : -1 ≤ a ∧ a ≤ 1000001) (hb : -1 ≤ b ∧ b ≤ 1000001) (hc : -1 ≤ c ∧ c ≤ 1000001) : ∃ z : Int, -1 ≤ z ∧ z ≤ 1000001 ∧ (w.alloc (.cells #[.int .i64 a, .int .i64 b, .int .i64 c] T)).cell? ⟨w.heap.size, k, none⟩ = some (.int .i64 z) := by
  rw [World.cell?_alloc_mark]
  rcases (show k = 0 ∨ k = 1 ∨ k = 2 by omega) with rfl | rfl | rfl
  · exact ⟨a, ha.1, ha.2, rfl⟩
  · exact ⟨b, hb.1, hb.2, rfl⟩
  · exact ⟨c, hc.1, hc.2, rfl⟩

/-- Tapes were drawn. -/
def M.TpDrawn (g : Nat) (a : Option Addr) (len cap : Nat) (w : World) (e : Ending) (w' : World) : Prop :=
  ∃ (h2 n c : Nat) (qs : List (M.TapeD × Value)), e = .returned (.slice (some ⟨h2, 0, none⟩) n c) ∧ qs.length = n ∧ 1 ≤ n ∧ n ≤ 3 ∧ (∀ t ∈ qs.map Prod.fst, M.tfew t) ∧ M.OwnT w' w.heap.size w'.heap.size (.slice (some ⟨h2, 0, none⟩) n c) qs ∧ M.Src g a len cap w' ∧ w.grownBy w' (some g)
set_option maxRecDepth 100000 in
set_option maxHeartbeats 3200000 in
theorem src_tapes (w : World) (g len cap : Nat) (a : Option Addr) (h : M.Src g a len cap w) :
    Calls Try.prog 42 #[.pointer (some ⟨g, 0, none⟩)] w fun e w' => M.TpDrawn g a len cap w e w' := by
  obtain ⟨it, hti, htz0, htz1, htz2⟩ := info_parts Try.infoTp
  have hgw := h.lt
  have HS := M.hds h
  clear h
  have A0 : Hid (M.OwnT (w.alloc (.cells #[] 36)) w.heap.size (w.alloc (.cells #[] 36)).heap.size (.slice (some ⟨w.heap.size, 0, none⟩) 0 0) []) := ⟨M.emptyT w w.heap.size (Nat.le_refl _), fun b hb => by have := Option.some.inj hb; simp at this ⊢; omega, fun p hp => by simp at hp, List.Pairwise.nil⟩
  go_enter Try.func42, Try.ntmps42
  go_wp2_with fail
  refine (src_n _ g len cap a 3 (HS.out.alloc _) (by omega)).mono ?_
  rintro e w1 ⟨K, rfl, k0, k1, -, hS, hg⟩
  have k3 := k1 (by omega)
  have hgall : w.grownBy w1 (some g) := M.grown_trans (World.grownBy_alloc w _ (some g)) hg
  have A1 : Hid (M.OwnT w1 w.heap.size w1.heap.size (.slice (some ⟨w.heap.size, 0, none⟩) 0 0) []) := (A0.out.byG hg hgw).widen (Nat.le_refl _) hg.size
  have HS1 := M.hds hS
  have HG1 := M.hds hgall
  clear k1 hS hg hgall A0 HS
  go_wp2
  go_loopw [3, 4] (fun v i wr => ∃ (z : Int) (qs : List (M.TapeD × Value)) (h2 c : Nat), i = .int .i64 z ∧ -1 ≤ z ∧ z ≤ K ∧ (qs.length : Int) + z = K ∧ v = .slice (some ⟨h2, 0, none⟩) qs.length c ∧ Hid (∀ t ∈ qs.map Prod.fst, M.tapeR t = true) ∧ Hid (M.OwnT wr w.heap.size wr.heap.size (.slice (some ⟨h2, 0, none⟩) qs.length c) qs) ∧ Hid (M.Src g a len cap wr) ∧ Hid (w.grownBy wr (some g))) (fun _ i _ => (intOf i + 1).toNat)
  case atStart => exact ⟨K, [], _, _, rfl, by omega, by omega, by simp, rfl, fun t ht => by simp at ht, A1, HS1, HG1⟩
  case round =>
    obtain ⟨z, qs, h2, c, rfl, hz1, hzK, hql, rfl, HR, HO, HSr, HG⟩ := hrel
    by_cases hz : 0 ≤ z
    case pos =>
      go_wp2_with fail
      refine (src_n _ g len cap a 3 HSr.out (by omega)).mono ?_
      rintro e w2 ⟨x, rfl, x0, x1, -, hS, hg⟩
      have x3 := x1 (by omega)
      have HO2 := M.hds (HO.out.byG hg hgw)
      have HS2 := M.hds hS
      have HG2 := M.hds (M.grown_trans HG.out hg)
      have ZZ := M.hds hg.size
      clear x1 hS hg HO
      go_wp2_with fail
      refine (src_n _ g len cap a 12 HS2.out (by omega)).mono ?_
      rintro e w3 ⟨y, rfl, y0, y1, -, hS, hg⟩
      have y12 := y1 (by omega)
      have HO3 : Hid (M.OwnT w3 w.heap.size w3.heap.size (.slice (some ⟨h2, 0, none⟩) qs.length c) qs) := (HO2.out.byG hg hgw).widen (Nat.le_refl _) (Nat.le_trans ZZ.out hg.size)
      have HS3 := M.hds hS
      have HG3 := M.hds (M.grown_trans HG2.out hg)
      clear y1 hS hg HO2
      have HRW : Hid (∀ o, (w3.alloc o).ownsRow w.heap.size 36 4 (.slice (some ⟨h2, 0, none⟩) qs.length c) qs.length (M.cellsT qs)) := fun o => World.ownsRow.alloc HO3.out.row o
      have HBA : Hid (∀ o, w.heap.size ≤ (w3.alloc o).heap.size) := fun o => by have := HG3.out.size; simp; omega
      go_wp2_with (at_builtin; refine wpList_append_own _ rfl (.tmp 15) (.tmp 21) 23 rfl w.heap.size 36 it (.agg #[.int .i64 0, .slice none 0 0, .int .i64 0, .int .i64 0]) 4 48 Try.underlying23 hti htz0 htz1 htz2 rfl (by decide) (.slice (some ⟨h2, 0, none⟩) qs.length c) qs.length (M.cellsT qs) rfl (HRW.out _) ⟨w3.heap.size, 0, none⟩ 1 1 (M.tcells (⟨x, [], 0, y⟩, .slice none 0 0)) rfl rfl (M.four_t _ x 0 y (.slice none 0 0) _ ⟨x, [], 0, y⟩ ⟨rfl, rfl, rfl⟩) ?c2 ?c3 ?c4 (HBA.out _) ?_)
      case c2 =>
        intro v hv
        simp [M.tcells] at hv
        rcases hv with rfl | rfl | rfl | rfl <;> rfl
      case c3 => unfold maxLen; omega
      case c4 => omega
      intro v' w4 hown' hgrow _
      have hO4 := ((HO3.out.below ((Below.refl _ _).alloc (Nat.le_refl _) (.cells #[.int .i64 x, .slice none 0 0, .int .i64 0, .int .i64 y] 36))).more (q := (⟨x, [], 0, y⟩, .slice none 0 0)) (hi' := w4.heap.size) hown' hgrow (M.OwnS.nil _ _) (fun g hg => by cases hg) (Nat.le_refl _))
      obtain ⟨h4, c4, rfl⟩ := hO4.rowAt (n := qs.length + 1) (by simp) (by omega)
      have hgall : w3.grownBy w4 (some h2) := ((World.grownBy_alloc w3 _ none).but _).trans hgrow
      have hh2 := (World.ownsRow.lt HO3.out.row h2 rfl).1
      have HO4 := M.hds hO4
      have HS4 : Hid (M.Src g a len cap w4) := HS3.out.kept hgall (fun k hk => by have := Option.some.inj hk; omega)
      have HG4 : Hid (w.grownBy w4 (some g)) := M.grO HG3.out hgall (fun k hk => by have := Option.some.inj hk; omega)
      have HR4 : Hid (∀ t ∈ (qs ++ [((⟨x, [], 0, y⟩ : M.TapeD), Value.slice none 0 0)]).map Prod.fst, M.tapeR t = true) := fun t ht => by
        rw [List.map_append] at ht
        rcases List.mem_append.1 ht with h1 | h1
        · exact HR.out t h1
        · simp at h1
          subst h1
          exact M.tapeR_iff.2 ⟨⟨x0, by show x ≤ _; omega⟩, ⟨y0, by show y ≤ _; omega⟩, by simpa using y0, ⟨Int.le_refl _, by simp⟩, fun s hs => by simp at hs⟩
      clear hown' hgrow hgall hO4 HRW HBA
      go_wp2
      go_roundw
      case rel => exact ⟨z - 1, qs ++ [(⟨x, [], 0, y⟩, .slice none 0 0)], h4, c4, by go_num, by omega, by omega, by simp; omega, by simp, HR4, by rw [show (qs ++ [((⟨x, [], 0, y⟩ : M.TapeD), Value.slice none 0 0)]).length = qs.length + 1 by simp]; exact HO4, HS4, HG4⟩
      case measure => simp [intOf]; omega
    obtain ⟨N, hN⟩ : ∃ N, N = qs.length := ⟨_, rfl⟩
    have hN1 : 1 ≤ N := by omega
    have hN3 : N ≤ 3 := by omega
    rw [← hN] at HO
    rw [← hN]
    have HNE : Hid (qs.length = N) := hN.symm
    clear hN k0 k3 A1 HS1 HG1
    go_wp2_with fail
    refine (src_n _ g len cap a 4 HSr.out (by omega)).mono ?_
    rintro e w2 ⟨K2, rfl, k0, k1, -, hS, hg⟩
    have k4 := k1 (by omega)
    have HO2 : Hid (M.OwnT w2 w.heap.size w2.heap.size (.slice (some ⟨h2, 0, none⟩) N c) qs) := (HO.out.byG hg hgw).widen (Nat.le_refl _) hg.size
    have HS2 := M.hds hS
    have HG2 := M.hds (M.grown_trans HG.out hg)
    clear k1 hS hg HO HSr HG
    go_wp2
    go_loopw [3, 5] (fun v i wr => ∃ (z : Int) (qs : List (M.TapeD × Value)) (h2 c : Nat), i = .int .i64 z ∧ 0 ≤ z ∧ z ≤ 4 ∧ v = .slice (some ⟨h2, 0, none⟩) N c ∧ Hid (qs.length = N) ∧ Hid (∀ t ∈ qs.map Prod.fst, M.tapeR t = true) ∧ Hid (M.OwnT wr w.heap.size wr.heap.size (.slice (some ⟨h2, 0, none⟩) N c) qs) ∧ Hid (M.Src g a len cap wr) ∧ Hid (w.grownBy wr (some g))) (fun _ i _ => (intOf i).toNat)
    case atStart => exact ⟨K2, qs, _, _, rfl, by omega, by omega, rfl, HNE, HR, HO2, HS2, HG2⟩
    case round =>
      clear HO2 HS2 HG2 HR HNE k0 k4 hql hz hzK hz1
      clear qs
      obtain ⟨z, qs, h2, c, rfl, hz0, hz4, rfl, HNE, HR, HO, HSr, HG⟩ := hrel
      by_cases hz : 0 < z
      case pos =>
        go_wp2_with fail
        refine (src_some _ g len cap a _ N c HSr.out (by omega)).mono ?_
        rintro e w3 ⟨h3, zs, c3, rfl, hzs, hzc, hON, hS, hg⟩
        have HO3 : Hid (M.OwnT w3 w.heap.size w3.heap.size (.slice (some ⟨h2, 0, none⟩) N c) qs) := (HO.out.byG hg hgw).widen (Nat.le_refl _) hg.size
        have HS3 := M.hds hS
        have HG3 := M.hds (M.grown_trans HG.out hg)
        have hgr3 : g < wr.heap.size := HSr.out.lt
        have HON3 := M.hds hON
        clear hS hg hON HO HG
        go_wp2_with fail
        refine (src_n _ g len cap a 200 HS3.out (by omega)).mono ?_
        rintro e w4 ⟨y, rfl, y0, y1, -, hS, hg⟩
        have y200 := y1 (by omega)
        obtain ⟨y, rfl⟩ := Int.eq_ofNat_of_zero_le y0
        have HO4 : Hid (M.OwnT w4 w.heap.size w4.heap.size (.slice (some ⟨h2, 0, none⟩) N c) qs) := (HO3.out.byG hg hgw).widen (Nat.le_refl _) hg.size
        have HON4 : Hid (M.OwnN w4 wr.heap.size (.slice (some ⟨h3, 0, none⟩) zs.length c3) zs) := HON3.out.grown hg (fun j hj e => by have := (World.ownsRow.lt HON3.out j hj).1; have := Option.some.inj e; omega)
        have HS4 := M.hds hS
        have HG4 := M.hds (M.grown_trans HG3.out hg)
        clear y1 hS hg HO3 HON3
        go_wp2_with fail
        refine (src_bytes _ g len cap a y HS4.out (by omega)).mono ?_
        rintro e w5 ⟨l, rfl, hll, hS, hg⟩
        have hls : (⟨l.toArray⟩ : ByteArray).size ≤ 200 := by rw [Lib.size_eq]; show l.length ≤ _; omega
        generalize (⟨l.toArray⟩ : ByteArray) = t0 at hls
        have HO5 : Hid (M.OwnT w5 w.heap.size w5.heap.size (.slice (some ⟨h2, 0, none⟩) N c) qs) := (HO4.out.byG hg hgw).widen (Nat.le_refl _) hg.size
        have HON5 : Hid (M.OwnN w5 wr.heap.size (.slice (some ⟨h3, 0, none⟩) zs.length c3) zs) := HON4.out.grown hg (fun j hj e => by have := (World.ownsRow.lt HON4.out j hj).1; have := Option.some.inj e; omega)
        have HS5 := M.hds hS
        have HG5 := M.hds (M.grown_trans HG4.out hg)
        have HNV : Hid (M.NV w5 (some ⟨h3, 0, none⟩) zs.length zs) := by
          obtain ⟨a', c', e, hnv⟩ := HON5.out.nv
          cases e
          exact hnv
        clear hS hg hll HO4 HON4
        go_wp2_with fail
        refine (sTW_draw w5 h2 N c h3 c3 _ zs t0 (HO5.out.at_slice rfl) HR.out (by omega) HNV.out hzc (by omega)).mono ?_
        rintro e w6 ⟨v6, ua6, un6, uc6, qs6, z6, rfl, hz6, hO6, hb⟩
        have HO6 := M.hds (HO5.out.below hb)
        have HS6 := M.hds (M.srcB HS5.out hb)
        have HG6 := M.hds (M.grB HG5.out hb)
        have HZ6 := M.hds hz6
        have hwb : w.heap.size ≤ w5.heap.size := HG5.out.size
        have HON6 := M.hds (hO6.widen (lo' := w.heap.size) hwb (Nat.le_refl _))
        have HSZ : Hid (w5.heap.size ≤ w6.heap.size) := hb.size
        clear hz6 hO6 hb HON5 HNV HO5
        have FIN : Hid (∀ (W : World) (b : Bool) (rs : List (M.TapeD × Value)) (h5 c5 : Nat), b = true → rs.length = N → (∀ t ∈ rs.map Prod.fst, M.tapeR t = true) → M.OwnT W w.heap.size W.heap.size (.slice (some ⟨h5, 0, none⟩) N c5) rs → Calls Try.prog 39 #[.slice (some ⟨h5, 0, none⟩) N c5] W fun e w' => ∃ (h6 c6 : Nat) (rs' : List (M.TapeD × Value)), e = .returned (.slice (some ⟨h6, 0, none⟩) N c6) ∧ rs'.length = N ∧ (∀ t ∈ rs'.map Prod.fst, M.tapeR t = true) ∧ M.OwnT w' w.heap.size w'.heap.size (.slice (some ⟨h6, 0, none⟩) N c6) rs' ∧ Below W.heap.size W w') := fun W b rs h5 c5 _ hl hr ho => by
          have htl := M.tln_few301 (us := rs.map Prod.fst) (fun t ht => M.tfew_of (hr t ht))
          rw [List.length_map] at htl
          refine (sSync_any W _ N c5 (rs.map Prod.fst) (ho.at_slice rfl) (fun t ht => M.tok_of (hr t ht)) (by omega)).mono ?_
          rintro e w' ⟨v, qs', rfl, hq, hO, hb⟩
          obtain ⟨e1, e2⟩ := M.tsync_right hr (by rw [List.length_map]; omega) (by rw [List.length_map]; omega)
          have hl2 : qs'.length = N := by
            have := congrArg List.length hq
            rw [List.length_map, e1, List.length_map] at this
            omega
          obtain ⟨h6, c6, rfl⟩ := hO.rowAt hl2 hN1
          have hww : w.heap.size ≤ W.heap.size := by
            have h1 := (World.ownsRow.lt ho.row h5 rfl)
            omega
          exact ⟨h6, c6, qs', rfl, hl2, by rw [hq]; exact e2, hO.widen hww (Nat.le_refl _), hb⟩
        by_cases hc6 : z6 = 0
        · obtain ⟨hr6, hl6⟩ := HZ6.out hc6
          obtain ⟨h6, c6, rfl⟩ := HON6.out.rowAt hl6 hN1
          have dz : (z6 == 0) = true := by rw [beq_iff_eq]; exact hc6
          have al : ∀ o, Below w6.heap.size w6 (w6.alloc o) := fun o => (Below.refl _ _).alloc (Nat.le_refl _) _
          have HO7 : Hid (∀ o, M.OwnT (w6.alloc o) w.heap.size (w6.alloc o).heap.size (.slice (some ⟨h6, 0, none⟩) N c6) qs6) := fun o => (HON6.out.below (al o)).widen (Nat.le_refl _) (by simp)
          have HS7 : Hid (∀ o, M.Src g a len cap (w6.alloc o)) := fun o => M.srcB HS6.out (al o)
          have HG7 : Hid (∀ o, w.grownBy (w6.alloc o) (some g)) := fun o => M.grB HG6.out (al o)
          have HR7 := M.hds hr6
          have HL7 := M.hds hl6
          clear hr6 hl6 al HZ6
          go_wp2_with fail
          refine (src_one _ g len cap a 3 (HS7.out _) (by omega)).mono ?_
          rintro e w8 ⟨b, rfl, hS, hg⟩
          have HO8 : Hid (M.OwnT w8 w.heap.size w8.heap.size (.slice (some ⟨h6, 0, none⟩) N c6) qs6) := ((HO7.out _).byG hg hgw).widen (Nat.le_refl _) hg.size
          have HS8 := M.hds hS
          have HG8 := M.hds (M.grown_trans (HG7.out _) hg)
          clear hS hg HO7 HS7 HG7
          cases b
          · go_wp2
            go_roundw
            case rel => exact ⟨z - 1, qs6, h6, c6, by go_num, by omega, by omega, rfl, HL7, HR7, HO8, HS8, HG8⟩
            case measure => simp [intOf]; omega
          · go_wp2_with fail
            refine (FIN.out w8 true qs6 h6 c6 rfl HL7.out HR7.out HO8.out).mono ?_
            rintro e w9 ⟨h9, c9, rs', rfl, hl9, hr9, hO9, hb⟩
            have HO9 := M.hds hO9
            have HR9 := M.hds hr9
            have HL9 := M.hds hl9
            have HS9 := M.hds (M.srcB HS8.out hb)
            have HG9 := M.hds (M.grB HG8.out hb)
            clear hO9 hr9 hl9 hb
            go_wp2
            go_roundw
            case rel => exact ⟨z - 1, rs', h9, c9, by go_num, by omega, by omega, rfl, HL9, HR9, HO9, HS9, HG9⟩
            case measure => simp [intOf]; omega
        · have dz : (z6 == 0) = false := by rw [beq_eq_false_iff_ne]; exact hc6
          obtain ⟨va, vn, vc, rfl⟩ : ∃ a n c, v6 = .slice a n c := (HON6.out.len).elim fun a ⟨c, e⟩ => ⟨a, _, c, e⟩
          have al : ∀ o, Below w6.heap.size w6 (w6.alloc o) := fun o => (Below.refl _ _).alloc (Nat.le_refl _) _
          have HO7 : Hid (∀ o, M.OwnT (w6.alloc o) w.heap.size (w6.alloc o).heap.size (.slice (some ⟨h2, 0, none⟩) N c) qs) := fun o => (HO6.out.below (al o)).widen (Nat.le_refl _) (by have := HSZ.out; simp; omega)
          have HS7 : Hid (∀ o, M.Src g a len cap (w6.alloc o)) := fun o => M.srcB HS6.out (al o)
          have HG7 : Hid (∀ o, w.grownBy (w6.alloc o) (some g)) := fun o => M.grB HG6.out (al o)
          clear al HZ6 HON6
          go_wp2_with fail
          refine (src_one _ g len cap a 3 (HS7.out _) (by omega)).mono ?_
          rintro e w8 ⟨b, rfl, hS, hg⟩
          have HO8 : Hid (M.OwnT w8 w.heap.size w8.heap.size (.slice (some ⟨h2, 0, none⟩) N c) qs) := ((HO7.out _).byG hg hgw).widen (Nat.le_refl _) hg.size
          have HS8 := M.hds hS
          have HG8 := M.hds (M.grown_trans (HG7.out _) hg)
          clear hS hg HO7 HS7 HG7
          cases b
          · go_wp2
            go_roundw
            case rel => exact ⟨z - 1, qs, h2, c, by go_num, by omega, by omega, rfl, HNE, HR, HO8, HS8, HG8⟩
            case measure => simp [intOf]; omega
          · go_wp2_with fail
            refine (FIN.out w8 true qs h2 c rfl HNE.out HR.out HO8.out).mono ?_
            rintro e w9 ⟨h9, c9, rs', rfl, hl9, hr9, hO9, hb⟩
            have HO9 := M.hds hO9
            have HR9 := M.hds hr9
            have HL9 := M.hds hl9
            have HS9 := M.hds (M.srcB HS8.out hb)
            have HG9 := M.hds (M.grB HG8.out hb)
            clear hO9 hr9 hl9 hb
            go_wp2
            go_roundw
            case rel => exact ⟨z - 1, rs', h9, c9, by go_num, by omega, by omega, rfl, HL9, HR9, HO9, HS9, HG9⟩
            case measure => simp [intOf]; omega
      have hzz : z = 0 := by omega
      subst hzz
      go_wp2_with fail
      refine (src_one _ g len cap a 20 HSr.out (by omega)).mono ?_
      rintro e w2 ⟨b, rfl, hS, hg⟩
      have HO2 : Hid (M.OwnT w2 w.heap.size w2.heap.size (.slice (some ⟨h2, 0, none⟩) N c) qs) := (HO.out.byG hg hgw).widen (Nat.le_refl _) hg.size
      have HS2 := M.hds hS
      have HG2 := M.hds (M.grown_trans HG.out hg)
      have HF := M.hds (fun t ht => M.tfew_of (HR.out t ht))
      have HRT := HR
      clear hS hg HO HSr HG HR hz hz0 hz4
      cases b
      · go_wp2
        go_ret
        exact ⟨h2, N, c, qs, rfl, HNE.out, hN1, hN3, HF.out, HO2.out, HS2.out, HG2.out⟩
      go_wp2_with fail
      refine (src_n _ g len cap a (N : Int) HS2.out (by omega)).mono ?_
      rintro e w3 ⟨j, rfl, j0, j1, j2, hS, hg⟩
      have hjN : j < (N : Int) := by
        by_cases h1 : 1 < (N : Int)
        · exact j1 h1
        · rw [j2 (by omega)]; omega
      obtain ⟨j, rfl⟩ := Int.eq_ofNat_of_zero_le j0
      have HO3 : Hid (M.OwnT w3 w.heap.size w3.heap.size (.slice (some ⟨h2, 0, none⟩) N c) qs) := (HO2.out.byG hg hgw).widen (Nat.le_refl _) hg.size
      have HS3 := M.hds hS
      have HG3 := M.hds (M.grown_trans HG2.out hg)
      clear j1 j2 hS hg HO2 HS2 HG2
      go_wp2_with fail
      refine (src_n _ g len cap a 4 HS3.out (by omega)).mono ?_
      rintro e w4 ⟨x, rfl, x0, x1, -, hS, hg⟩
      have x4 := x1 (by omega)
      have HO4 : Hid (M.OwnT w4 w.heap.size w4.heap.size (.slice (some ⟨h2, 0, none⟩) N c) qs) := (HO3.out.byG hg hgw).widen (Nat.le_refl _) hg.size
      have HS4 := M.hds hS
      have HG4 := M.hds (M.grown_trans HG3.out hg)
      clear x1 hS hg HO3 HS3 HG3
      have hjn : j < N := by omega
      obtain ⟨t, u, hqj⟩ : ∃ t u, qs[j]? = some (t, u) := ⟨_, _, List.getElem?_eq_getElem (by have := HNE.out; omega)⟩
      obtain ⟨t0, t1, t2, t3, tf, ua, uc, hu⟩ := M.OwnT.at4 HO4.out hqj
      have htf := HF.out t (List.mem_map.2 ⟨_, List.mem_of_getElem? hqj, rfl⟩)
      obtain ⟨lab, ss, syn, room⟩ := t
      simp only at hu t0 t1 t2 t3
      subst hu
      have hss : ss.length ≤ 300 := by have := (M.tapeR_iff.1 (HRT.out _ (List.mem_map.2 ⟨_, List.mem_of_getElem? hqj, rfl⟩))); simp only at this; omega
      have HTF := M.hds htf
      have HQJ := M.hds hqj
      have hh2 := (World.ownsRow.lt HO4.out.row h2 rfl).1
      have HLN : ∀ q : M.TapeD × Value, Hid ((qs.take j ++ q :: qs.drop (j + 1)).length = N) := fun q => (M.len_put (by have := HNE.out; omega)).trans HNE.out
      have HSET : Hid (∀ (W : World) i v, M.Src g a len cap W → w.grownBy W (some g) → M.Src g a len cap (W.setCell ⟨h2, i, none⟩ v) ∧ w.grownBy (W.setCell ⟨h2, i, none⟩ v) (some g)) := fun W i v hS hG => by
        have hx : W.grownBy (W.setCell ⟨h2, i, none⟩ v) (some h2) := M.grown_set (World.grownBy.refl W (some h2)) i v
        exact ⟨hS.kept hx (fun k hk => by have := Option.some.inj hk; omega), M.grO hG hx (fun k hk => by have := Option.some.inj hk; omega)⟩
      clear htf hqj
      rcases (show x = 0 ∨ x = 1 ∨ x = 2 ∨ x = 3 by omega) with rfl | rfl | rfl | rfl
      · go_wp2
        go_ret
        obtain ⟨s1, s2⟩ := HSET.out _ (j * 4 + 2) (.int .i64 ((ss.length : Int) + 1)) HS4.out HG4.out
        exact ⟨h2, N, c, qs.take j ++ (⟨lab, ss, (ss.length : Int) + 1, room⟩, .slice ua ss.length uc) :: qs.drop (j + 1), rfl, (HLN _).out, hN1, hN3, M.all_put HF.out ⟨⟨HTF.out.1.1, HTF.out.1.2.1, ⟨by show _ ≤ (ss.length : Int) + 1; omega, by show (ss.length : Int) + 1 ≤ _; omega⟩, HTF.out.1.2.2.2⟩, HTF.out.2⟩, (HO4.out.synAt HQJ.out _).widen (Nat.le_refl _) (by simp [World.setCell]), s1, s2⟩
      · obtain ⟨i0, hi, hs0, hs1, hs2⟩ := info_parts Try.infoTx
        have al : ∀ o, Below w4.heap.size w4 (w4.alloc o) := fun o => (Below.refl _ _).alloc (Nat.le_refl _) _
        have HO5 : Hid (∀ o, M.OwnT (w4.alloc o) w.heap.size w4.heap.size (.slice (some ⟨h2, 0, none⟩) N c) qs) := fun o => HO4.out.below (al o)
        have HOA : Hid (∀ o, (w4.alloc o).ownsRow w.heap.size 9 1 (.slice ua ss.length uc) ss.length (ss.map Value.string)) := fun o => World.ownsRow.alloc (HO4.out.each _ (List.mem_of_getElem? HQJ.out)).1 o
        have HBA : Hid (∀ o, w.heap.size ≤ (w4.alloc o).heap.size) := fun o => by have := HG4.out.size; simp; omega
        have HS5 : Hid (∀ o, M.Src g a len cap (w4.alloc o)) := fun o => M.srcB HS4.out (al o)
        have HG5 : Hid (∀ o, w.grownBy (w4.alloc o) (some g)) := fun o => M.grB HG4.out (al o)
        clear al
        go_wp2_with (at_builtin; refine wpList_append_own_at _ rfl (.tmp 85) (.tmp 86) 34 rfl w.heap.size 9 i0 (.string ⟨#[]⟩) 1 16 Try.underlying34 hi hs0 hs1 hs2 rfl (by decide) (.slice ua ss.length uc) ss.length (ss.map Value.string) rfl (HOA.out _) ⟨w4.heap.size, 0, none⟩ 1 1 [.string _] rfl rfl (M.one_n _ _ _) (M.oneCellS _) ?c3 ?c4 (HBA.out _) ?_)
        case c3 => unfold maxLen; omega
        case c4 => omega
        intro v' w5 hown' hgrow _ hat
        have hO5 : M.OwnS w5 w.heap.size v' (ss ++ [⟨#[115, 104, 111, 114, 116]⟩]) := M.OwnS.more hown'
        obtain ⟨xa, xc, rfl⟩ := hO5.len
        have hgr : w4.grownBy w5 (Value.slice ua ss.length uc).ownBlock := ((World.grownBy_alloc w4 _ none).but _).trans hgrow
        have hue := (HO4.out.each _ (List.mem_of_getElem? HQJ.out)).1
        have hgb : w5.heap[h2]? = w4.heap[h2]? := hgr.block h2 (World.ownsRow.lt HO4.out.row h2 rfl).2 (fun e => HO4.out.notIn (List.mem_of_getElem? HQJ.out) rfl e.symm)
        have d1 := (World.cell?_of_block (a := ⟨h2, j * 4 + 1, none⟩) hgb).trans t1
        have df : ∀ i, w5.frozen? ⟨h2, i, none⟩ = false := fun i => (World.frozen?_of_block (a := ⟨h2, i, none⟩) hgb).trans (tf i)
        have HZ := M.hds (HO4.out.app HQJ.out hgr (Nat.le_refl _) hO5 (hat.imp id (fun e b hb => by rw [e] at hb; have := Option.some.inj hb; omega)))
        have HS6 : Hid (M.Src g a len cap w5) := HS4.out.kept hgr (fun k hk => by have := (World.ownsRow.lt hue k hk).1; omega)
        have HG6 : Hid (w.grownBy w5 (some g)) := M.grO HG4.out hgr (fun k hk => (World.ownsRow.lt hue k hk).1)
        clear hown' hgrow hat hO5 hgr hue hgb t0 t1 t2 t3 tf HO5 HOA HBA HS5 HG5
        go_wp2
        go_ret
        obtain ⟨s1, s2⟩ := HSET.out _ (j * 4 + 1) (.slice xa (ss ++ [(⟨#[115, 104, 111, 114, 116]⟩ : ByteArray)]).length xc) HS6.out HG6.out
        rw [show (ss ++ [(⟨#[115, 104, 111, 114, 116]⟩ : ByteArray)]).length = ss.length + 1 by simp] at s1 s2
        have HZ2 := HZ.out
        rw [show (ss ++ [(⟨#[115, 104, 111, 114, 116]⟩ : ByteArray)]).length = ss.length + 1 by simp] at HZ2
        refine ⟨h2, N, c, qs.take j ++ ((⟨lab, ss ++ [(⟨#[115, 104, 111, 114, 116]⟩ : ByteArray)], syn, room⟩ : M.TapeD), Value.slice xa (ss.length + 1) xc) :: qs.drop (j + 1), rfl, (HLN _).out, hN1, hN3, M.all_put HF.out ⟨⟨fun s hs => ?_, HTF.out.1.2⟩, ?_, fun s hs => ?_⟩, HZ2.widen (Nat.le_refl _) (by simp [World.setCell]), s1, s2⟩
        · rcases List.mem_append.1 hs with h1 | h1
          · exact HTF.out.1.1 s h1
          · rw [List.mem_singleton.1 h1]; decide
        · show (ss ++ [(⟨#[115, 104, 111, 114, 116]⟩ : ByteArray)]).length ≤ 301
          rw [List.length_append]
          show ss.length + 1 ≤ 301
          omega
        · rcases List.mem_append.1 hs with h1 | h1
          · exact HTF.out.2.2 s h1
          · rw [List.mem_singleton.1 h1]; decide
      · obtain ⟨it2, hti2, htw0, htw1, htw2⟩ := info_parts Try.infoTp
        have al : ∀ o, Below w4.heap.size w4 (w4.alloc o) := fun o => (Below.refl _ _).alloc (Nat.le_refl _) _
        have HO5 : Hid (∀ o, M.OwnT (w4.alloc o) w.heap.size (w4.alloc o).heap.size (.slice (some ⟨h2, 0, none⟩) N c) qs) := fun o => (HO4.out.below (al o)).widen (Nat.le_refl _) (by simp)
        have HS5 : Hid (∀ o, M.Src g a len cap (w4.alloc o)) := fun o => M.srcB HS4.out (al o)
        have HG5 : Hid (∀ o, w.grownBy (w4.alloc o) (some g)) := fun o => M.grB HG4.out (al o)
        have hg4 : g < w4.heap.size := HS4.out.lt
        clear al t0 t1 t2 t3 tf hti2 htw0 htw1 htw2
        clear it2
        go_wp2_with fail
        refine (src_n _ g len cap a 3 (HS5.out _) (by omega)).mono ?_
        rintro e w6 ⟨y, rfl, y0, y1, -, hS, hg⟩
        have y3 := y1 (by omega)
        obtain ⟨y, rfl⟩ := Int.eq_ofNat_of_zero_le y0
        obtain ⟨z, z0, z1, hcz⟩ := M.tri w4 2 (-1) 300 301 y (by omega) (by decide) (by decide) (by decide)
        have cz := hg.cell hcz (by simp; omega)
        have HO6 : Hid (M.OwnT w6 w.heap.size w6.heap.size (.slice (some ⟨h2, 0, none⟩) N c) qs) := ((HO5.out _).byG hg hgw).widen (Nat.le_refl _) hg.size
        have HS6 := M.hds hS
        have HG6 := M.hds (M.grown_trans (HG5.out _) hg)
        obtain ⟨t0, t1, t2, t3, tf, -⟩ := M.OwnT.at4 HO6.out HQJ.out
        simp only at t0 t1 t2 t3
        clear y1 hS hg hcz HO5 HS5 HG5
        go_wp2
        go_ret
        obtain ⟨s1, s2⟩ := HSET.out _ (j * 4 + 3) (.int .i64 z) HS6.out HG6.out
        exact ⟨h2, N, c, qs.take j ++ (⟨lab, ss, syn, z⟩, .slice ua ss.length uc) :: qs.drop (j + 1), rfl, (HLN _).out, hN1, hN3, M.all_put HF.out ⟨⟨HTF.out.1.1, HTF.out.1.2.1, HTF.out.1.2.2.1, ⟨by show _ ≤ z; omega, by show z ≤ _; omega⟩⟩, HTF.out.2⟩, (HO6.out.roomAt HQJ.out z).widen (Nat.le_refl _) (by simp [World.setCell]), s1, s2⟩
      · obtain ⟨it2, hti2, htw0, htw1, htw2⟩ := info_parts Try.infoTp
        have al : ∀ o, Below w4.heap.size w4 (w4.alloc o) := fun o => (Below.refl _ _).alloc (Nat.le_refl _) _
        have HO5 : Hid (∀ o, M.OwnT (w4.alloc o) w.heap.size (w4.alloc o).heap.size (.slice (some ⟨h2, 0, none⟩) N c) qs) := fun o => (HO4.out.below (al o)).widen (Nat.le_refl _) (by simp)
        have HS5 : Hid (∀ o, M.Src g a len cap (w4.alloc o)) := fun o => M.srcB HS4.out (al o)
        have HG5 : Hid (∀ o, w.grownBy (w4.alloc o) (some g)) := fun o => M.grB HG4.out (al o)
        have hg4 : g < w4.heap.size := HS4.out.lt
        clear al t0 t1 t2 t3 tf hti2 htw0 htw1 htw2
        clear it2
        go_wp2_with fail
        refine (src_n _ g len cap a 3 (HS5.out _) (by omega)).mono ?_
        rintro e w6 ⟨y, rfl, y0, y1, -, hS, hg⟩
        have y3 := y1 (by omega)
        obtain ⟨y, rfl⟩ := Int.eq_ofNat_of_zero_le y0
        obtain ⟨z, z0, z1, hcz⟩ := M.tri w4 2 (-1) 1000000 1000001 y (by omega) (by decide) (by decide) (by decide)
        have cz := hg.cell hcz (by simp; omega)
        have HO6 : Hid (M.OwnT w6 w.heap.size w6.heap.size (.slice (some ⟨h2, 0, none⟩) N c) qs) := ((HO5.out _).byG hg hgw).widen (Nat.le_refl _) hg.size
        have HS6 := M.hds hS
        have HG6 := M.hds (M.grown_trans (HG5.out _) hg)
        obtain ⟨t0, t1, t2, t3, tf, -⟩ := M.OwnT.at4 HO6.out HQJ.out
        simp only at t0 t1 t2 t3
        clear y1 hS hg hcz HO5 HS5 HG5
        go_wp2
        go_ret
        obtain ⟨s1, s2⟩ := HSET.out _ (j * 4) (.int .i64 z) HS6.out HG6.out
        exact ⟨h2, N, c, qs.take j ++ (⟨z, ss, syn, room⟩, .slice ua ss.length uc) :: qs.drop (j + 1), rfl, (HLN _).out, hN1, hN3, M.all_put HF.out ⟨⟨HTF.out.1.1, ⟨by show _ ≤ z; omega, by show z ≤ _; omega⟩, HTF.out.1.2.2⟩, HTF.out.2⟩, (HO6.out.labAt HQJ.out z).widen (Nat.le_refl _) (by simp [World.setCell]), s1, s2⟩
end Go.Proofs.Ytappficbjjkmiaa

/-
  What DrawTapesWrite of the specification draws: tapes, numbers, a text.
-/
namespace Go.Proofs.Ytappficbjjkmiaa
open Go.RowKit

set_option maxRecDepth 100000 in
set_option maxHeartbeats 800000 in
theorem src_between2 (w : World) (g len cap : Nat) (a : Option Addr) (lo hi : Int) (h : M.Src g a len cap w) (h0 : -1000 ≤ lo) (h1 : lo ≤ 1000) (h2 : -1000 ≤ hi) (h3 : hi ≤ 1000) (h4 : lo ≤ hi) :
    Calls Try.prog 74 #[.pointer (some ⟨g, 0, none⟩), .int .i64 lo, .int .i64 hi] w fun e w' => ∃ v : Int, e = .returned (.int .i64 v) ∧ M.Src g a len cap w' ∧ w.grownBy w' (some g) := by
  have HS := M.hds h
  clear h
  go_enter Try.func74, Try.ntmps74
  go_wp2_with fail
  refine (src_n _ g len cap a (hi - lo + 1) HS.out (by omega)).mono ?_
  rintro e w1 ⟨v, rfl, v0, v1, v2, hS, hg⟩
  have hv : v ≤ 2001 := by
    by_cases h9 : 1 < hi - lo + 1
    · have := v1 h9; omega
    · rw [v2 (by omega)]; omega
  clear v1 v2
  go_wp2
  go_ret
  exact ⟨_, rfl, hS, hg⟩

set_option maxRecDepth 100000 in
set_option maxHeartbeats 1600000 in
theorem src_list2 (w : World) (g len cap : Nat) (a : Option Addr) (n : Nat) (lo hh : Int) (h : M.Src g a len cap w) (hn : n ≤ 100) (h0 : -1000 ≤ lo) (h1 : lo ≤ 1000) (h2 : -1000 ≤ hh) (h3 : hh ≤ 1000) (h4 : lo ≤ hh) :
    Calls Try.prog 45 #[.pointer (some ⟨g, 0, none⟩), .int .i64 n, .int .i64 lo, .int .i64 hh] w fun e w' => ∃ (h : Nat) (zs : List Int) (c : Nat), e = .returned (.slice (some ⟨h, 0, none⟩) zs.length c) ∧ zs.length ≤ 100 ∧ zs.length ≤ c ∧ M.OwnN w' w.heap.size (.slice (some ⟨h, 0, none⟩) zs.length c) zs ∧ M.Src g a len cap w' ∧ w.grownBy w' (some g) := by
  obtain ⟨i0, hi, hz0, hz1, hz2⟩ := info_parts Try.infoN
  have hgw := h.lt
  have HS := M.hds h
  clear h
  have A0 : Hid (M.OwnN (w.alloc (.cells #[] 2)) w.heap.size (.slice (some ⟨w.heap.size, 0, none⟩) 0 0) []) := M.NumsAt.own (zs := []) ⟨#[], heap_alloc_new _ _, Nat.le_refl _, rfl, rfl⟩ (Nat.zero_le _) (Nat.le_refl _)
  have HL : Hid (-1000 ≤ lo ∧ lo ≤ 1000 ∧ -1000 ≤ hh ∧ hh ≤ 1000 ∧ lo ≤ hh) := ⟨h0, h1, h2, h3, h4⟩
  clear h0 h1 h2 h3 h4
  go_enter Try.func45, Try.ntmps45
  go_wp2
  go_loopw [1, 9] (fun i v wr => ∃ (k : Nat) (acc : List Int) (h c : Nat), i = .int .i64 k ∧ v = .slice (some ⟨h, 0, none⟩) acc.length c ∧ k ≤ n ∧ acc.length + k ≤ n ∧ acc.length ≤ c ∧ Hid (M.OwnN wr w.heap.size (.slice (some ⟨h, 0, none⟩) acc.length c) acc) ∧ Hid (M.Src g a len cap wr) ∧ Hid (w.grownBy wr (some g))) (fun i _ _ => (intOf i).toNat)
  case atStart => exact ⟨n, [], _, 0, rfl, rfl, Nat.le_refl _, by simp, Nat.le_refl _, A0, HS.out.alloc _, World.grownBy_alloc w _ (some g)⟩
  case round =>
    obtain ⟨k, acc, h, c, rfl, rfl, hk, hac, hcc, HO, HSr, HG⟩ := hrel
    by_cases hlt : 0 < k
    · have d0 : decide (0 < (k : Int)) = true := decide_eq_true (by omega)
      obtain ⟨k', rfl⟩ : ∃ k', k = k' + 1 := ⟨k - 1, by omega⟩
      clear hlt
      go_wp2_with fail
      refine (src_between2 _ g len cap a lo hh HSr.out HL.out.1 HL.out.2.1 HL.out.2.2.1 HL.out.2.2.2.1 HL.out.2.2.2.2).mono ?_
      rintro e w1 ⟨v, rfl, hS, hg⟩
      have hown : w1.ownsRow w.heap.size 2 1 (.slice (some ⟨h, 0, none⟩) acc.length c) acc.length (acc.map M.nv) := HO.out.grown hg (fun j hj e => by have := (World.ownsRow.lt HO.out j hj).1; have := Option.some.inj e; omega)
      have HS1 := M.hds hS
      have HG1 : Hid (w.grownBy w1 (some g)) := M.grown_trans HG.out hg
      have hsz : w.heap.size ≤ w1.heap.size := HG1.out.size
      have hh1 := (World.ownsRow.lt hown h rfl).1
      have HRW : Hid (∀ o, (w1.alloc o).ownsRow w.heap.size 2 1 (.slice (some ⟨h, 0, none⟩) acc.length c) acc.length (acc.map M.nv)) := fun o => World.ownsRow.alloc hown o
      clear hS hg HO hown
      go_wp2_with (at_builtin; refine wpList_append_own _ rfl (.tmp 15) (.tmp 20) 24 rfl w.heap.size 2 i0 (.int .i64 0) 1 8 Try.underlying24 hi hz0 hz1 hz2 rfl (by decide) _ _ _ rfl (HRW.out _) ⟨w1.heap.size, 0, none⟩ 1 1 [.int .i64 v] rfl rfl (cell_one_new _ _ _) ?c2 ?c3 ?c4 ?c5 ?_)
      case c2 => exact fun u hu => by rw [List.mem_singleton.1 hu]; rfl
      case c3 => unfold maxLen; omega
      case c4 => omega
      case c5 => simp; omega
      intro v' w2 hown' hgrow _
      have HO2 : M.OwnN w2 w.heap.size v' (acc ++ [v]) := M.OwnN.more hown'
      obtain ⟨e, e2⟩ | ⟨h2, c2, rfl, -, -, hat⟩ := HO2.at
      · simp at e2
      have hc2 : (acc ++ [v]).length ≤ c2 := by obtain ⟨cur, -, hn2, -⟩ := hat; exact hn2
      have HO3 := M.hds HO2
      have hgall : w1.grownBy w2 (some h) := ((World.grownBy_alloc w1 _ none).but _).trans hgrow
      have HS2 : Hid (M.Src g a len cap w2) := HS1.out.kept hgall (fun k hk => by have := Option.some.inj hk; omega)
      have HG2 : Hid (w.grownBy w2 (some g)) := M.grO HG1.out hgall (fun k hk => by have := Option.some.inj hk; omega)
      have hl2 : (acc ++ [v]).length + k' ≤ n := by simp; omega
      clear hown' hgrow hgall HRW HO2 hat
      go_wp2
      go_roundw
      case rel => exact ⟨k', acc ++ [v], h2, c2, by go_num, rfl, by omega, hl2, hc2, HO3, HS2, HG2⟩
      case measure => simp [intOf]
    · have d0 : decide (0 < k) = false := decide_eq_false hlt
      go_wp2
      go_ret
      exact ⟨h, acc, c, rfl, by omega, hcc, HO.out, HSr.out, HG.out⟩

/-- Tapes, numbers and a text were drawn. -/
def M.TwDrawn (w : World) (e : Ending) (w' : World) : Prop :=
  ∃ (h2 n c : Nat) (qs : List (M.TapeD × Value)) (h3 : Nat) (zs : List Int) (c3 : Nat) (t : ByteArray), e = .returned (.tuple #[.slice (some ⟨h2, 0, none⟩) n c, .slice (some ⟨h3, 0, none⟩) zs.length c3, .string t]) ∧ qs.length = n ∧ 1 ≤ n ∧ n ≤ 3 ∧ (∀ t ∈ qs.map Prod.fst, M.tfew t) ∧ M.OwnT w' w.heap.size w'.heap.size (.slice (some ⟨h2, 0, none⟩) n c) qs ∧ zs.length ≤ 100 ∧ zs.length ≤ c3 ∧ M.NV w' (some ⟨h3, 0, none⟩) zs.length zs ∧ t.size ≤ 300 ∧ Below w.heap.size w w'

set_option maxRecDepth 100000 in
set_option maxHeartbeats 1600000 in
theorem drawTW_any (w : World) (a : Option Addr) (len cap : Nat) (hR : M.IsRow w a len cap) :
    Calls Try.prog 9 #[.slice a len cap] w fun e w' => M.TwDrawn w e w' := by
  have HR := M.hds hR
  clear hR
  have UP : Hid (∀ {W W' : World}, Below w.heap.size w W → W.grownBy W' (some w.heap.size) → Below w.heap.size w W') := fun hB hg => hB.grown hg hB.size (fun k hk => by have := Option.some.inj hk; omega)
  go_enter Try.func9, Try.ntmps9
  go_wp2_with fail
  refine (source_any _ a len cap HR.out).mono ?_
  rintro e w1 ⟨rfl, hS, hb⟩
  have HS1 := M.hds hS
  have HB1 := M.hds hb
  have hgw : w.heap.size < w1.heap.size := hS.lt
  clear hS hb
  go_wp2_with fail
  refine (src_tapes _ _ len cap a HS1.out).mono ?_
  rintro e w2 ⟨h2, n, c, qs, rfl, hqn, hn1, hn3, hF, hO, hS, hg⟩
  have HO2 := M.hds (hO.widen (lo' := w.heap.size + 1) hgw (Nat.le_refl _))
  have HF := M.hds hF
  have HQN := M.hds hqn
  have HS2 := M.hds hS
  have HB2 := M.hds (UP.out HB1.out hg)
  clear hqn hF hO hS hg HS1 HB1
  go_wp2_with fail
  refine (src_some _ _ len cap a _ n c HS2.out (by omega)).mono ?_
  rintro e w3 ⟨h3, zs, c3, rfl, hzs, hzc, hON, hS, hg⟩
  have HO3 : Hid (M.OwnT w3 (w.heap.size + 1) w3.heap.size (.slice (some ⟨h2, 0, none⟩) n c) qs) := (HO2.out.byG hg (Nat.lt_succ_self _)).widen (Nat.le_refl _) hg.size
  have HON3 := M.hds hON
  have HGS : Hid (w.heap.size < w2.heap.size) := HS2.out.lt
  have HS3 := M.hds hS
  have HB3 := M.hds (UP.out HB2.out hg)
  clear hON hS hg HO2 HS2 HB2
  go_wp2_with fail
  refine (src_one _ _ len cap a 12 HS3.out (by omega)).mono ?_
  rintro e w4 ⟨b, rfl, hS, hg⟩
  have HO4 : Hid (M.OwnT w4 (w.heap.size + 1) w4.heap.size (.slice (some ⟨h2, 0, none⟩) n c) qs) := (HO3.out.byG hg (Nat.lt_succ_self _)).widen (Nat.le_refl _) hg.size
  have HON4 : Hid (M.OwnN w4 w2.heap.size (.slice (some ⟨h3, 0, none⟩) zs.length c3) zs) := HON3.out.grown hg (fun j hj e => by have := (World.ownsRow.lt HON3.out j hj).1; have := HGS.out; have := Option.some.inj e; omega)
  have HS4 := M.hds hS
  have HB4 := M.hds (UP.out HB3.out hg)
  clear hS hg HO3 HS3 HB3 HON3
  have FIN : Hid (∀ (W : World) (h3 : Nat) (zs : List Int) (c3 : Nat) (t : ByteArray), M.OwnT W (w.heap.size + 1) W.heap.size (.slice (some ⟨h2, 0, none⟩) n c) qs → M.OwnN W w2.heap.size (.slice (some ⟨h3, 0, none⟩) zs.length c3) zs → zs.length ≤ 100 → zs.length ≤ c3 → t.size ≤ 300 → Below w.heap.size w W → M.TwDrawn w (.returned (.tuple #[.slice (some ⟨h2, 0, none⟩) n c, .slice (some ⟨h3, 0, none⟩) zs.length c3, .string t])) W) := fun W h3 zs c3 t hO hN h1 h2' h3' hB => by
    have hnv : M.NV W (some ⟨h3, 0, none⟩) zs.length zs := by
      obtain ⟨a', c', e, hnv⟩ := hN.nv
      cases e
      exact hnv
    exact ⟨h2, n, c, qs, h3, zs, c3, t, rfl, HQN.out, hn1, hn3, HF.out, hO.widen (Nat.le_succ _) (Nat.le_refl _), h1, h2', hnv, h3', hB⟩
  cases b
  · go_wp2_with fail
    refine (src_n _ _ len cap a 300 HS4.out (by omega)).mono ?_
    rintro e w5 ⟨y, rfl, y0, y1, -, hS, hg⟩
    have y3 := y1 (by omega)
    obtain ⟨y, rfl⟩ := Int.eq_ofNat_of_zero_le y0
    have HO5 : Hid (M.OwnT w5 (w.heap.size + 1) w5.heap.size (.slice (some ⟨h2, 0, none⟩) n c) qs) := (HO4.out.byG hg (Nat.lt_succ_self _)).widen (Nat.le_refl _) hg.size
    have HON5 : Hid (M.OwnN w5 w2.heap.size (.slice (some ⟨h3, 0, none⟩) zs.length c3) zs) := HON4.out.grown hg (fun j hj e => by have := (World.ownsRow.lt HON4.out j hj).1; have := HGS.out; have := Option.some.inj e; omega)
    have HS5 := M.hds hS
    have HB5 := M.hds (UP.out HB4.out hg)
    clear y1 hS hg HO4 HS4 HB4 HON4
    go_wp2_with fail
    refine (src_bytes _ _ len cap a y HS5.out (by omega)).mono ?_
    rintro e w6 ⟨l, rfl, hll, hS, hg⟩
    have hls : (⟨l.toArray⟩ : ByteArray).size ≤ 300 := by rw [Lib.size_eq]; show l.length ≤ _; omega
    generalize (⟨l.toArray⟩ : ByteArray) = t0 at hls
    have HO6 : Hid (M.OwnT w6 (w.heap.size + 1) w6.heap.size (.slice (some ⟨h2, 0, none⟩) n c) qs) := (HO5.out.byG hg (Nat.lt_succ_self _)).widen (Nat.le_refl _) hg.size
    have HON6 : Hid (M.OwnN w6 w2.heap.size (.slice (some ⟨h3, 0, none⟩) zs.length c3) zs) := HON5.out.grown hg (fun j hj e => by have := (World.ownsRow.lt HON5.out j hj).1; have := HGS.out; have := Option.some.inj e; omega)
    have HB6 := M.hds (UP.out HB5.out hg)
    clear hS hg hll HO5 HS5 HB5 HON5
    go_wp2
    exact bodyPost_ret (v := .tuple #[.slice (some ⟨h2, 0, none⟩) n c, .slice (some ⟨h3, 0, none⟩) zs.length c3, .string t0]) (by simp [results, Try.results9, go_sem]) rfl (FIN.out _ h3 zs c3 t0 HO6.out HON6.out (by omega) hzc hls HB6.out)
  · go_wp2_with fail
    refine (src_n _ _ len cap a 4 HS4.out (by omega)).mono ?_
    rintro e w5 ⟨y, rfl, y0, y1, -, hS, hg⟩
    have y3 := y1 (by omega)
    obtain ⟨y, rfl⟩ := Int.eq_ofNat_of_zero_le y0
    have HO5 : Hid (M.OwnT w5 (w.heap.size + 1) w5.heap.size (.slice (some ⟨h2, 0, none⟩) n c) qs) := (HO4.out.byG hg (Nat.lt_succ_self _)).widen (Nat.le_refl _) hg.size
    have HS5 := M.hds hS
    have HB5 := M.hds (UP.out HB4.out hg)
    have HG5 : Hid (w2.heap.size ≤ w5.heap.size) := by
      have h1 := HON4.out
      have h2 := (World.ownsRow.lt h1 h3 rfl)
      have := hg.size
      show _ ≤ _
      omega
    clear y1 hS hg HO4 HS4 HB4 HON4
    go_wp2_with fail
    refine (src_list2 _ _ len cap a y (-1) 5 HS5.out (by omega) (by omega) (by omega) (by omega) (by omega) (by omega)).mono ?_
    rintro e w6 ⟨h6, zs6, c6, rfl, hzs6, hzc6, hON, hS, hg⟩
    have HO6 : Hid (M.OwnT w6 (w.heap.size + 1) w6.heap.size (.slice (some ⟨h2, 0, none⟩) n c) qs) := (HO5.out.byG hg (Nat.lt_succ_self _)).widen (Nat.le_refl _) hg.size
    have HON6 := M.hds (hON.down HG5.out)
    have HS6 := M.hds hS
    have HB6 := M.hds (UP.out HB5.out hg)
    clear hON hS hg HO5 HS5 HB5
    go_wp2_with fail
    refine (src_n _ _ len cap a 300 HS6.out (by omega)).mono ?_
    rintro e w7 ⟨x, rfl, x0, x1, -, hS, hg⟩
    have x3 := x1 (by omega)
    obtain ⟨x, rfl⟩ := Int.eq_ofNat_of_zero_le x0
    have HO7 : Hid (M.OwnT w7 (w.heap.size + 1) w7.heap.size (.slice (some ⟨h2, 0, none⟩) n c) qs) := (HO6.out.byG hg (Nat.lt_succ_self _)).widen (Nat.le_refl _) hg.size
    have HON7 : Hid (M.OwnN w7 w2.heap.size (.slice (some ⟨h6, 0, none⟩) zs6.length c6) zs6) := HON6.out.grown hg (fun j hj e => by have := (World.ownsRow.lt HON6.out j hj).1; have := HGS.out; have := Option.some.inj e; omega)
    have HS7 := M.hds hS
    have HB7 := M.hds (UP.out HB6.out hg)
    clear x1 hS hg HO6 HS6 HB6 HON6
    go_wp2_with fail
    refine (src_bytes _ _ len cap a x HS7.out (by omega)).mono ?_
    rintro e w8 ⟨l, rfl, hll, hS, hg⟩
    have hls : (⟨l.toArray⟩ : ByteArray).size ≤ 300 := by rw [Lib.size_eq]; show l.length ≤ _; omega
    generalize (⟨l.toArray⟩ : ByteArray) = t0 at hls
    have HO8 : Hid (M.OwnT w8 (w.heap.size + 1) w8.heap.size (.slice (some ⟨h2, 0, none⟩) n c) qs) := (HO7.out.byG hg (Nat.lt_succ_self _)).widen (Nat.le_refl _) hg.size
    have HON8 : Hid (M.OwnN w8 w2.heap.size (.slice (some ⟨h6, 0, none⟩) zs6.length c6) zs6) := HON7.out.grown hg (fun j hj e => by have := (World.ownsRow.lt HON7.out j hj).1; have := HGS.out; have := Option.some.inj e; omega)
    have HB8 := M.hds (UP.out HB7.out hg)
    clear hS hg hll HO7 HS7 HB7 HON7
    go_wp2
    exact bodyPost_ret (v := .tuple #[.slice (some ⟨h2, 0, none⟩) n c, .slice (some ⟨h6, 0, none⟩) zs6.length c6, .string t0]) (by simp [results, Try.results9, go_sem]) rfl (FIN.out _ h6 zs6 c6 t0 HO8.out HON8.out hzs6 hzc6 hls HB8.out)
end Go.Proofs.Ytappficbjjkmiaa
