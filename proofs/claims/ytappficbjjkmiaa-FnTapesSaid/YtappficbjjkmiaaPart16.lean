/-
  What TapesSync of the program does.
-/
import Derived.Test.YtappficbjjkmiaaPart9
import Derived.Test.YtappficbjjkmiaaITapesR
import Derived.Test.YtappficbjjkmiaaPart15
namespace Go.Proofs.Ytappficbjjkmiaa
open Go.RowKit

/-- The tapes that TapesSync tells. -/
def M.syncT (ts : List M.TapeD) : List M.TapeD := if 400 < ts.length then [] else if M.tapesR ts = true then ts.map M.tsync else ts

set_option maxRecDepth 100000 in
set_option maxHeartbeats 1600000 in
theorem iSync_any (w : World) (a : Option Addr) (n c : Nat) (ts : List M.TapeD) (h : M.Tps w a n c ts) (hok : ∀ t ∈ ts, M.tok t) (hsm : ∀ t ∈ ts, ∀ s ∈ t.ss, s.size ≤ 100000000) (hl : n + M.tln ts ≤ 1048576) :
    Calls Try.prog 21 #[.slice a n c] w fun e w' => ∃ (v : Value) (qs : List (M.TapeD × Value)), e = .returned v ∧ qs.map Prod.fst = M.syncT ts ∧ M.OwnT w' w.heap.size w'.heap.size v qs ∧ Below w.heap.size w w' := by
  have HF := M.hl h
  have HSM := M.hl hsm
  have HN : Hid (n = ts.length) := h.1
  have CR := M.hl (iTapesR_any w a n c ts h hok)
  have hnl : n ≤ 1048576 := by omega
  have HL := M.hl hl
  clear h hok hsm hl
  by_cases h4 : 400 < n
  · have HE : Hid (M.syncT ts = []) := by show _ = _; unfold M.syncT; rw [if_pos (by have := HN.out; omega)]
    go_enter Try.func21, Try.ntmps21
    go_wp2
    go_ret
    exact ⟨_, [], rfl, HE.out.symm, M.OwnT.nil _ _ _, Below.refl _ _⟩
  have h4' : decide (400 < (n : Int)) = false := decide_eq_false (by omega)
  cases hr : M.tapesR ts
  · have HE : Hid (M.syncT ts = ts) := by show _ = _; unfold M.syncT; rw [if_neg (by have := HN.out; omega), hr]; rfl
    rw [hr] at CR
    clear hr
    go_enter Try.func21, Try.ntmps21
    go_wp2_with fail
    refine CR.out.mono ?_
    rintro e w1 ⟨rfl, hb⟩
    have B1 := M.hl hb
    clear hb
    go_wp2_with fail
    refine (iEachC_any w1 a n c ts (HF.out.below B1.out) HSM.out HL.out).mono ?_
    rintro e w2 ⟨v, qs, rfl, hq, hO, hb⟩
    have HQ := M.hl hq
    have HO := M.hl (hO.widen B1.out.size (Nat.le_refl _))
    have B2 := M.hl (M.sl B1.out hb)
    clear hq hO hb
    go_wp2
    go_ret
    exact ⟨v, qs, rfl, HQ.out.trans HE.out.symm, HO.out, B2.out⟩
  · have HE : Hid (M.syncT ts = ts.map M.tsync) := by show _ = _; unfold M.syncT; rw [if_neg (by have := HN.out; omega), hr]; rfl
    rw [hr] at CR
    clear hr
    go_enter Try.func21, Try.ntmps21
    go_wp2_with fail
    refine CR.out.mono ?_
    rintro e w1 ⟨rfl, hb⟩
    have B1 := M.hl hb
    clear hb
    go_wp2_with fail
    refine (iEachS_any w1 a n c ts (HF.out.below B1.out) HSM.out HL.out).mono ?_
    rintro e w2 ⟨v, qs, rfl, hq, hO, hb⟩
    have HQ := M.hl hq
    have HO := M.hl (hO.widen B1.out.size (Nat.le_refl _))
    have B2 := M.hl (M.sl B1.out hb)
    clear hq hO hb
    go_wp2
    go_ret
    exact ⟨v, qs, rfl, HQ.out.trans HE.out.symm, HO.out, B2.out⟩
end Go.Proofs.Ytappficbjjkmiaa

/-
  What TapesSync of the specification does.
-/
namespace Go.Proofs.Ytappficbjjkmiaa
open Go.RowKit

set_option maxRecDepth 100000 in
set_option maxHeartbeats 3200000 in
theorem sSync_any (w : World) (ad : Addr) (n c : Nat) (ts : List M.TapeD) (h : M.Tps w (some ad) n c ts) (hok : ∀ t ∈ ts, M.tok t) (hl : n + M.tln ts ≤ 1048576) :
    Calls Try.prog 39 #[.slice (some ad) n c] w fun e w' => ∃ (v : Value) (qs : List (M.TapeD × Value)), e = .returned v ∧ qs.map Prod.fst = M.syncT ts ∧ M.OwnT w' w.heap.size w'.heap.size v qs ∧ Below w.heap.size w w' := by
  have HF := M.hl h
  have HN : Hid (n = ts.length) := h.1
  have CR := M.hl (fun W (hW : Below w.heap.size w W) => sTapesR_any W (some ad) n c ts (h.below hW) hok)
  have hnl : n ≤ 1048576 := by omega
  have HL := M.hl hl
  clear h hok hl
  by_cases h4 : 400 < n
  · have HE : Hid (M.syncT ts = []) := by show _ = _; unfold M.syncT; rw [if_pos (by have := HN.out; omega)]
    go_enter Try.func39, Try.ntmps39
    go_wp2
    go_ret
    refine ⟨_, [], rfl, HE.out.symm, ⟨M.emptyT w w.heap.size (Nat.le_refl _), fun g hg => ?_, (fun p hp => by simp at hp), List.Pairwise.nil⟩, (Below.refl _ _).alloc (Nat.le_refl _) _⟩
    have := Option.some.inj hg
    simp at this ⊢
    omega
  have h4' : decide (400 < (n : Int)) = false := decide_eq_false (by omega)
  by_cases hz : n = 0
  · subst hz
    have HE : Hid (M.syncT ts = ts) := by
      show _ = _
      have := List.length_eq_zero_iff.1 HN.out.symm
      rw [this]
      rfl
    go_enter Try.func39, Try.ntmps39
    go_wp2_with fail
    refine (sCopyTp_any w ad 0 c ts HF.out HL.out).mono ?_
    rintro e w1 ⟨v, qs, rfl, hq, hO, hb⟩
    have hql : qs.length = 0 := by rw [HN.out, ← hq, List.length_map]
    obtain ⟨va, vc, rfl⟩ := hO.lenN hql
    have HO := M.hl hO
    have HQ := M.hl hq
    have B1 := M.hl hb
    clear hO hq hb hql
    go_wp2
    go_loopw [4] (fun i wr => i = .int .i64 0 ∧ w1 = wr) (fun _ _ => 0)
    case atStart => exact ⟨rfl, rfl⟩
    case round =>
      obtain ⟨rfl, rfl⟩ := hrel
      go_wp2
      go_ret
      exact ⟨_, qs, rfl, HQ.out.trans HE.out.symm, HO.out, B1.out⟩
  cases hr : M.tapesR ts
  · have HE : Hid (M.syncT ts = ts) := by show _ = _; unfold M.syncT; rw [if_neg (by have := HN.out; omega), hr]; rfl
    rw [hr] at CR
    clear hr
    have hpos : 0 < n := by omega
    clear hz
    go_enter Try.func39, Try.ntmps39
    go_wp2_with fail
    refine (sCopyTp_any w ad n c ts HF.out HL.out).mono ?_
    rintro e w1 ⟨v, qs, rfl, hq, hO, hb⟩
    have hql : qs.length = n := by rw [HN.out, ← hq, List.length_map]
    obtain ⟨va, vc, rfl⟩ := hO.lenN hql
    have HO := M.hl hO
    have HQ := M.hl hq
    have B1 := M.hl hb
    clear hO hq hb hql
    go_wp2
    go_loopw [4] (fun i wr => i = .int .i64 0 ∧ w1 = wr) (fun _ _ => 0)
    case atStart => exact ⟨rfl, rfl⟩
    case round =>
      obtain ⟨rfl, rfl⟩ := hrel
      go_wp2_with fail
      refine (CR.out w1 B1.out).mono ?_
      rintro e w2 ⟨rfl, hb⟩
      have HO2 := M.hl ((HO.out.below hb).widen (Nat.le_refl _) hb.size)
      have B2 := M.hl (M.sl B1.out hb)
      clear hb
      go_wp2
      go_ret
      exact ⟨_, qs, rfl, HQ.out.trans HE.out.symm, HO2.out, B2.out⟩
  · have HE : Hid (M.syncT ts = ts.map M.tsync) := by show _ = _; unfold M.syncT; rw [if_neg (by have := HN.out; omega), hr]; rfl
    rw [hr] at CR
    clear hr
    have hpos : 0 < n := by omega
    clear hz
    go_enter Try.func39, Try.ntmps39
    go_wp2_with fail
    refine (sCopyTp_any w ad n c ts HF.out HL.out).mono ?_
    rintro e w1 ⟨v, qs, rfl, hq, hO, hb⟩
    have hql : qs.length = n := by rw [HN.out, ← hq, List.length_map]
    obtain ⟨g, vc, rfl⟩ : ∃ g vc, v = .slice (some ⟨g, 0, none⟩) n vc := by
      obtain ⟨⟨-, ⟨-, h0⟩ | ⟨g, cap, cur, e, -⟩⟩, -, -, -⟩ := hO
      · omega
      · rw [hql] at e; exact ⟨g, cap, e⟩
    have HO := M.hl hO
    have HQ := M.hl hq
    have B1 := M.hl hb
    clear hO hq hb hql
    go_wp2
    go_loopw [4] (fun i wr => ∃ (k : Nat) (rs : List (M.TapeD × Value)), i = .int .i64 k ∧ k ≤ n ∧ Hid (rs.map Prod.fst = (ts.take k).map M.tsync ++ ts.drop k) ∧ Hid (M.OwnT wr w.heap.size wr.heap.size (.slice (some ⟨g, 0, none⟩) n vc) rs) ∧ Hid (Below w.heap.size w wr)) (fun i _ => n - (intOf i).toNat)
    case atStart => exact ⟨0, qs, rfl, Nat.zero_le _, HQ, HO, B1⟩
    case round =>
      obtain ⟨k, rs, rfl, hk, HM, HOr, HBr⟩ := hrel
      by_cases hlt : k < n
      · obtain ⟨t, hfk⟩ : ∃ t, ts[k]? = some t := ⟨_, List.getElem?_eq_getElem (by have := HN.out; omega)⟩
        have hrk : ∃ u, rs[k]? = some (t, u) := by
          have h1 : (rs.map Prod.fst)[k]? = some t := by
            rw [HM.out, List.getElem?_append_right (by simp; omega)]
            simp only [List.length_map, List.length_take]
            rw [List.getElem?_drop, Nat.min_eq_left (by have := HN.out; omega), Nat.sub_self]
            exact hfk
          rw [List.getElem?_map] at h1
          cases hq : rs[k]? with
          | none => rw [hq] at h1; cases h1
          | some p => rw [hq] at h1; obtain rfl := Option.some.inj h1; exact ⟨p.2, rfl⟩
        obtain ⟨u, hrk⟩ := hrk
        have HFK := M.hl hfk
        have HRK := M.hl hrk
        obtain ⟨x, ss, y, z⟩ := t
        have hss := ((HOr.out.each _ (List.mem_of_getElem? hrk)).1).len
        simp only at hss
        obtain ⟨ua, uc, rfl⟩ := hss
        have hLm : ss.length ≤ 1048576 := by
          have h1 := M.tln_take hfk
          have h2 : M.tln ts = M.tln (ts.take (k + 1)) + M.tln (ts.drop (k + 1)) := by rw [← M.tln_app, List.take_append_drop]
          have h3 := HL.out
          simp only at h1
          omega
        obtain ⟨L, hL⟩ : ∃ L, L = ss.length := ⟨_, rfl⟩
        have HLE := M.hl hL
        rw [← hL] at hLm HRK
        clear hfk hrk hL
        go_wp2_with fail
        refine (CR.out wr HBr.out).mono ?_
        rintro e w2 ⟨rfl, hb⟩
        have HO2 := M.hl ((HOr.out.below hb).widen (Nat.le_refl _) hb.size)
        have B2 := M.hl (M.sl HBr.out hb)
        obtain ⟨-, hgb, -, -, hR2, hP2⟩ := HO2.out.place
        obtain ⟨c0, c1, c2, c3⟩ := hP2 k _ HRK.out
        have f2 := hR2.free (k * 4 + 2)
        have HGB := M.hl hgb
        have HN3 := M.hl (HO2.out.synAt HRK.out (L : Int))
        clear hb hP2 hR2 c0 c3 hgb
        go_wp2
        go_roundw
        case rel =>
          refine ⟨k + 1, _, by go_num, by omega, ?_, HN3.out.widen (Nat.le_refl _) (by simp [World.setCell]), B2.out.setCell HGB.out _⟩
          show _ = _
          have hm := HM.out
          have hrl : rs.length = n := by rw [← List.length_map (f := Prod.fst), hm, HN.out]; simp; omega
          rw [List.map_append, List.map_cons, List.map_take, List.map_drop, hm, M.take_snocG HFK.out, List.map_append]
          have hk1 : ((ts.take k).map M.tsync).length = k := by rw [List.length_map, List.length_take]; have := HN.out; omega
          rw [List.take_append_of_le_length (by omega), List.take_of_length_le (by omega), List.drop_append, List.drop_of_length_le (by omega), hk1, List.nil_append, show k + 1 - k = 1 by omega, List.drop_drop]
          simp only [List.map_cons, List.map_nil, List.append_assoc, List.singleton_append, M.tsync, HLE.out]
        case measure => simp [intOf]; omega
      · obtain rfl : k = n := by omega
        have HM2 : Hid (rs.map Prod.fst = M.syncT ts) := by
          show _ = _
          rw [HM.out, HE.out, List.take_of_length_le (by have := HN.out; omega), List.drop_of_length_le (by have := HN.out; omega), List.append_nil]
        go_wp2
        go_ret
        exact ⟨_, rs, rfl, HM2.out, HOr.out, HBr.out⟩
end Go.Proofs.Ytappficbjjkmiaa
