/-
  What TapesCrash of the specification does.
-/
import Derived.Test.YtappficbjjkmiaaPart8
import Derived.Test.YtappficbjjkmiaaPart14
import Derived.Test.YtappficbjjkmiaaICrashL
import Derived.Test.YtappficbjjkmiaaStepCall2
import Derived.Test.YtappficbjjkmiaaSMinT
import Derived.Test.YtappficbjjkmiaaPart17
import Derived.Deep.RegionWith
namespace Go.Proofs.Ytappficbjjkmiaa
open Go.RowKit

theorem M.crash_put {ts : List M.TapeD} {ks : List Int} {k : Nat} {t : M.TapeD} {u : Value} {qs : List (M.TapeD × Value)} (h : qs.map Prod.fst = (M.lefts ts ks k).map M.tsync ++ ts.drop k) (ht : ts[k]? = some t) : (qs.take k ++ (M.tcrash t (ks[k]?.getD 0), u) :: qs.drop (k + 1)).map Prod.fst = (M.lefts ts ks (k + 1)).map M.tsync ++ ts.drop (k + 1) := by
  rw [List.map_append, List.map_cons, List.map_take, List.map_drop, h, M.lefts_succ ht, List.map_append, List.append_assoc]
  have hl : ((M.lefts ts ks k).map M.tsync).length = k := by rw [List.length_map, M.lefts_len]
  rw [List.take_append_of_le_length (by omega), List.take_of_length_le (by omega), List.drop_append, List.drop_of_length_le (by omega), hl, List.nil_append, show k + 1 - k = 1 by omega, List.drop_drop]
  simp only [List.map_cons, List.map_nil, List.singleton_append, M.tcrash_eq]
theorem M.crash_at {ts : List M.TapeD} {ks : List Int} {k : Nat} {t : M.TapeD} {qs : List (M.TapeD × Value)} (h : qs.map Prod.fst = (M.lefts ts ks k).map M.tsync ++ ts.drop k) (ht : ts[k]? = some t) : ∃ u, qs[k]? = some (t, u) := by
  have h1 : (qs.map Prod.fst)[k]? = some t := by
    rw [h, List.getElem?_append_right (by rw [List.length_map, M.lefts_len]; exact Nat.le_refl _), List.length_map, M.lefts_len, Nat.sub_self, List.getElem?_drop]
    exact ht
  rw [List.getElem?_map] at h1
  cases hq : qs[k]? with
  | none => rw [hq] at h1; cases h1
  | some p => rw [hq] at h1; exact ⟨p.2, by rw [← Option.some.inj h1]⟩

set_option maxRecDepth 100000 in
set_option maxHeartbeats 3200000 in
theorem sCrash_any (w : World) (ad : Addr) (n c : Nat) (ts : List M.TapeD) (a' : Option Addr) (m c' : Nat) (ks : List Int) (h : M.Tps w (some ad) n c ts) (hok : ∀ t ∈ ts, M.tok t) (hl : n + M.tln ts ≤ 1048576) (hk : M.Ints w a' m ks) (hm : m ≤ 1048576) :
    Calls Try.prog 17 #[.slice (some ad) n c, .slice a' m c'] w fun e w' => ∃ (v : Value) (qs : List (M.TapeD × Value)), e = .returned v ∧ qs.map Prod.fst = M.crashT ts ks ∧ M.OwnT w' w.heap.size w'.heap.size v qs ∧ Below w.heap.size w w' := by
  have HF := M.hl h
  have HK := M.hl hk
  have HN : Hid (n = ts.length) := h.1
  have HMM : Hid (m = ks.length) := hk.1
  have CR := M.hl (fun W (hW : Below w.heap.size w W) => sTapesR_any W (some ad) n c ts (h.below hW) hok)
  have hnl : n ≤ 1048576 := by omega
  have HL := M.hl hl
  clear h hok hl hk
  have EMP : Hid (M.OwnT (w.alloc (.cells #[] 36)) w.heap.size (w.alloc (.cells #[] 36)).heap.size (.slice (some ⟨w.heap.size, 0, none⟩) 0 0) []) := by
    refine ⟨M.emptyT w w.heap.size (Nat.le_refl _), fun g hg => ?_, (fun p hp => by simp at hp), List.Pairwise.nil⟩
    have := Option.some.inj hg
    simp at this ⊢
    omega
  by_cases h4 : 400 < n
  · have HE : Hid (M.crashT ts ks = []) := by show _ = _; unfold M.crashT; rw [if_pos (.inl (by have := HN.out; omega))]
    have d4 : decide (400 < (n : Int)) = true := decide_eq_true (by omega)
    go_enter Try.func17, Try.ntmps17
    go_wp2
    go_ret
    exact ⟨_, [], rfl, HE.out.symm, EMP.out, (Below.refl _ _).alloc (Nat.le_refl _) _⟩
  have h4' : decide (400 < (n : Int)) = false := decide_eq_false (by omega)
  by_cases h5 : 400 < m
  · have HE : Hid (M.crashT ts ks = []) := by show _ = _; unfold M.crashT; rw [if_pos (.inr (by have := HMM.out; omega))]
    have d5 : decide (400 < (m : Int)) = true := decide_eq_true (by omega)
    go_enter Try.func17, Try.ntmps17
    go_wp2
    go_ret
    exact ⟨_, [], rfl, HE.out.symm, EMP.out, (Below.refl _ _).alloc (Nat.le_refl _) _⟩
  have h5' : decide (400 < (m : Int)) = false := decide_eq_false (by omega)
  have HNO : Hid (¬ (400 < ts.length ∨ 400 < ks.length)) := by show ¬ _; have := HN.out; have := HMM.out; omega
  clear EMP
  by_cases hz : n = 0
  · subst hz
    have HE : Hid (M.crashT ts ks = ts) := by
      show _ = _
      have := List.length_eq_zero_iff.1 HN.out.symm
      unfold M.crashT
      rw [if_neg HNO.out, this]
      rfl
    go_enter Try.func17, Try.ntmps17
    go_wp2_with fail
    refine (sCopyTp_any w ad 0 c ts HF.out HL.out).mono ?_
    rintro e w1 ⟨v, qs, rfl, hq, hO, hb⟩
    have hql : qs.length = 0 := by rw [HN.out, ← hq, List.length_map]
    obtain ⟨va, vc, rfl⟩ := hO.lenN hql
    have HO := M.hl hO
    have HQ := M.hl hq
    have B1 := M.hl hb
    clear hO hq hb hql
    go_wp2
    go_loopw [6] (fun i wr => i = .int .i64 0 ∧ w1 = wr) (fun _ _ => 0)
    case atStart => exact ⟨rfl, rfl⟩
    case round =>
      obtain ⟨rfl, rfl⟩ := hrel
      go_wp2
      go_ret
      exact ⟨_, qs, rfl, HQ.out.trans HE.out.symm, HO.out, B1.out⟩
  have hpos : 0 < n := by omega
  cases hr : M.tapesR ts
  · have HE : Hid (M.crashT ts ks = ts) := by show _ = _; unfold M.crashT; rw [if_neg HNO.out, hr]; rfl
    rw [hr] at CR
    clear hr hz
    go_enter Try.func17, Try.ntmps17
    go_wp2_with fail
    refine (sCopyTp_any w ad n c ts HF.out HL.out).mono ?_
    rintro e w1 ⟨v, qs, rfl, hq, hO, hb⟩
    have hql : qs.length = n := by rw [HN.out, ← hq, List.length_map]
    obtain ⟨va, vc, rfl⟩ := hO.lenN hql
    have HO := M.hl hO
    have HQ := M.hl hq
    have B1 := M.hl hb
    clear hO hq hb hql
    go_wp2
    go_loopw [6] (fun i wr => i = .int .i64 0 ∧ w1 = wr) (fun _ _ => 0)
    case atStart => exact ⟨rfl, rfl⟩
    case round =>
      obtain ⟨rfl, rfl⟩ := hrel
      go_wp2_with fail
      refine (CR.out w1 B1.out).mono ?_
      rintro e w2 ⟨rfl, hb⟩
      have HO2 := M.hl ((HO.out.below hb).widen (Nat.le_refl _) hb.size)
      have B2 := M.hl (M.sl B1.out hb)
      clear hb
      go_wp2
      go_ret
      exact ⟨_, qs, rfl, HQ.out.trans HE.out.symm, HO2.out, B2.out⟩
  · have HE : Hid (M.crashT ts ks = (M.lefts ts ks ts.length).map M.tsync) := by show _ = _; unfold M.crashT; rw [if_neg HNO.out, hr]; rfl
    have HT : Hid (∀ t ∈ ts, M.tapeR t = true) := (M.tapesR_iff.1 hr).2
    rw [hr] at CR
    clear hr hz
    go_enter Try.func17, Try.ntmps17
    go_wp2_with fail
    refine (sCopyTp_any w ad n c ts HF.out HL.out).mono ?_
    rintro e w1 ⟨v, qs, rfl, hq, hO, hb⟩
    have hql : qs.length = n := by rw [HN.out, ← hq, List.length_map]
    obtain ⟨g, vc, rfl⟩ : ∃ g vc, v = .slice (some ⟨g, 0, none⟩) n vc := by
      obtain ⟨⟨-, ⟨-, h0⟩ | ⟨g, cap, cur, e, -⟩⟩, -, -, -⟩ := hO
      · omega
      · rw [hql] at e; exact ⟨g, cap, e⟩
    have HO := M.hl hO
    have HQ := M.hl hq
    have B1 := M.hl hb
    clear hO hq hb hql
    go_wp2
    go_loopw [6] (fun i wr => ∃ (k : Nat) (rs : List (M.TapeD × Value)), i = .int .i64 k ∧ k ≤ n ∧ Hid (rs.map Prod.fst = (M.lefts ts ks k).map M.tsync ++ ts.drop k) ∧ Hid (M.OwnT wr w.heap.size wr.heap.size (.slice (some ⟨g, 0, none⟩) n vc) rs) ∧ Hid (Below w.heap.size w wr)) (fun i _ => n - (intOf i).toNat)
    case atStart => exact ⟨0, qs, rfl, Nat.zero_le _, HQ, HO, B1⟩
    case round =>
      obtain ⟨k, rs, rfl, hk, HM, HOr, HBr⟩ := hrel
      by_cases hlt : k < n
      · obtain ⟨t, hfk⟩ : ∃ t, ts[k]? = some t := ⟨_, List.getElem?_eq_getElem (by have := HN.out; omega)⟩
        have hrt := M.tapeR_iff.1 (HT.out t (List.mem_of_getElem? hfk))
        obtain ⟨u, hrk⟩ := M.crash_at HM.out hfk
        obtain ⟨x, ss, y, z⟩ := t
        obtain ⟨-, -, -, ⟨hy0, hy1⟩, -⟩ := hrt
        simp only at hy0 hy1
        have hoe := (HOr.out.each _ (List.mem_of_getElem? hrk)).1
        simp only at hoe
        obtain ⟨ua, uc, hu⟩ := hoe.len
        subst hu
        have huz := hoe.noneCap rfl
        have huc : ss.length ≤ uc := by obtain ⟨a2, c2, e2, hs2⟩ := hoe.strs; cases e2; exact hs2.2.1
        have hucm : uc ≤ 9223372036854775807 := by obtain ⟨a2, c2, e2, hs2⟩ := hoe.strs; cases e2; have := hs2.2.2.1; unfold maxLen at this; omega
        have hLm : ss.length ≤ 1048576 := by
          have h1 := M.tln_take hfk
          have h2 : M.tln ts = M.tln (ts.take (k + 1)) + M.tln (ts.drop (k + 1)) := by rw [← M.tln_app, List.take_append_drop]
          have h3 := HL.out
          simp only at h1
          omega
        obtain ⟨K, hK⟩ : ∃ K, K = ks[k]?.getD 0 := ⟨_, rfl⟩
        obtain ⟨Y, rfl⟩ := Int.eq_ofNat_of_zero_le hy0
        obtain ⟨N, hNv⟩ : ∃ N, N = M.leftN ⟨x, ss, (Y : Int), z⟩ K := ⟨_, rfl⟩
        have hNe : N = min ss.length (Y + K.toNat) := by rw [hNv]; rfl
        have HSHO : Hid (∀ W, M.OwnS W w.heap.size (.slice ua ss.length uc) ss → M.OwnS W w.heap.size (.slice ua N uc) (ss.take N)) := fun W hW => hW.short (by omega)
        have HNEW : Hid (∀ v : Value, (rs.take k ++ ((⟨x, ss.take N, (N : Int), z⟩ : M.TapeD), v) :: rs.drop (k + 1)).map Prod.fst = (M.lefts ts ks (k + 1)).map M.tsync ++ ts.drop (k + 1)) := fun v => by
          have := M.crash_put (u := v) HM.out hfk
          rw [← hK] at this
          unfold M.tcrash at this
          rw [← hNv] at this
          exact this
        obtain ⟨L, hLL⟩ : ∃ L, L = ss.length := ⟨_, rfl⟩
        have HLL := M.hl hLL
        have HRK := M.hl hrk
        have HKE := M.hl hK
        rw [← hLL] at hy1 huc hLm hNe HRK HSHO
        have hNL : N ≤ L := by omega
        have hNc : N ≤ uc := by omega
        have HNE2 := M.hl hNe
        have HUZ := M.hl huz
        clear hfk hrk hoe hK hNv hLL huz
        go_wp2_with fail
        refine (CR.out wr HBr.out).mono ?_
        rintro e w2 ⟨rfl, hb⟩
        have HO2 := M.hl ((HOr.out.below hb).widen (Nat.le_refl _) hb.size)
        have B2 := M.hl (M.sl HBr.out hb)
        obtain ⟨-, hgb, -, -, hR2, hP2⟩ := HO2.out.place
        have hpk := hP2 k _ HRK.out
        obtain ⟨c0, c1, c2, c3⟩ := hpk
        simp only at c0 c1 c2 c3
        have f2 := hR2.free
        have HGB := M.hl hgb
        have HSH : Hid (M.OwnS w2 w.heap.size (.slice ua N uc) (ss.take N)) := HSHO.out w2 (by
          have := (HO2.out.each _ (List.mem_of_getElem? HRK.out)).1
          exact this)
        have HN3 := M.hl (HO2.out.cut HRK.out (.slice ua N uc) (ss.take N) (N : Int) HSH.out (by cases ua <;> rfl))
        have DD : Hid (Below w2.heap.size w2 w2.drew) := (Below.refl _ _).drew
        clear hb hP2 hR2 hgb c0 c3
        by_cases hA : k < m ∧ 0 < K
        case neg =>
          have hNY : N = Y := by
            have h1 := HNE2.out
            have : K ≤ 0 := by
              by_cases e : k < m
              · omega
              · rw [HKE.out, List.getElem?_eq_none (by have := HMM.out; omega)]; exact Int.le_refl 0
            omega
          clear hNe
          subst hNY
          by_cases hkm : k < m
          · have dK : decide (0 < K) = false := decide_eq_false (by omega)
            obtain ⟨kb, koff, hka, hkc⟩ := HK.out.2 (by omega)
            subst hka
            have hkl : k < ks.length := by have := HMM.out; omega
            have hKv : K = ks[k] := by rw [HKE.out, List.getElem?_eq_getElem hkl]; rfl
            have q0 := hkc k hkl
            rw [← hKv] at q0
            have q1 := (B2.out.cell (p := ⟨kb, koff + k, none⟩) (World.block_lt_of_cell? w _ q0)).trans q0
            clear hkc hKv hkl q0 hA
            cases ua with
            | none =>
              have hL0 : uc = 0 := HUZ.out rfl
              subst hL0
              obtain rfl : N = 0 := by omega
              obtain rfl : L = 0 := by omega
              go_wp2
              go_roundw
              case rel =>
                refine ⟨k + 1, _, by go_num, by omega, ?_, HN3.out.widen (Nat.le_refl _) (by simp [World.setCell]), M.stBt (M.stBt B2.out HGB.out _ _) HGB.out _ _⟩
                exact HNEW.out _
              case measure => simp [intOf]; omega
            | some ua =>
              go_wp2
              go_roundw
              case rel =>
                refine ⟨k + 1, _, by go_num, by omega, ?_, HN3.out.widen (Nat.le_refl _) (by simp [World.setCell]), M.stBt (M.stBt B2.out HGB.out _ _) HGB.out _ _⟩
                exact HNEW.out _
              case measure => simp [intOf]; omega
          · clear hA
            cases ua with
            | none =>
              have hL0 : uc = 0 := HUZ.out rfl
              subst hL0
              obtain rfl : N = 0 := by omega
              obtain rfl : L = 0 := by omega
              go_wp2
              go_roundw
              case rel =>
                refine ⟨k + 1, _, by go_num, by omega, ?_, HN3.out.widen (Nat.le_refl _) (by simp [World.setCell]), M.stBt (M.stBt B2.out HGB.out _ _) HGB.out _ _⟩
                exact HNEW.out _
              case measure => simp [intOf]; omega
            | some ua =>
              go_wp2
              go_roundw
              case rel =>
                refine ⟨k + 1, _, by go_num, by omega, ?_, HN3.out.widen (Nat.le_refl _) (by simp [World.setCell]), M.stBt (M.stBt B2.out HGB.out _ _) HGB.out _ _⟩
                exact HNEW.out _
              case measure => simp [intOf]; omega
        obtain ⟨hkm, hK0⟩ := hA
        have dK : decide (0 < K) = true := decide_eq_true hK0
        obtain ⟨kb, koff, hka, hkc⟩ := HK.out.2 (by omega)
        subst hka
        have hkl : k < ks.length := by have := HMM.out; omega
        have hKv : K = ks[k] := by rw [HKE.out, List.getElem?_eq_getElem hkl]; rfl
        have q0 := hkc k hkl
        rw [← hKv] at q0
        have q1 := (B2.out.cell (p := ⟨kb, koff + k, none⟩) (World.block_lt_of_cell? w _ q0)).trans q0
        have hNK : (Y : Int) + min K ((L : Int) - (Y : Int)) = (N : Int) := by have := HNE2.out; omega
        have CMN : Hid (∀ W, Calls Try.prog 62 #[.int .i64 K, .int .i64 ((L : Int) - (Y : Int))] W fun e w' => e = .returned (.int .i64 (min K ((L : Int) - (Y : Int)))) ∧ W = w') := fun W => sMinT_any K _ W
        obtain ⟨D, hD⟩ : ∃ D, D = min K ((L : Int) - (Y : Int)) := ⟨_, rfl⟩
        rw [← hD] at CMN hNK
        have hD0 : 0 ≤ D := by omega
        have hD1 : D ≤ 1048576 := by omega
        have HND := M.hl hNK
        have HO2d : Hid (M.OwnT w2.drew w.heap.size w2.heap.size (.slice (some ⟨g, 0, none⟩) n vc) rs) := HO2.out.below DD.out
        have HSHd : Hid (M.OwnS w2.drew w.heap.size (.slice ua N uc) (ss.take N)) := HSH.out.below DD.out
        have HN3d := M.hl (HO2d.out.cut HRK.out (.slice ua N uc) (ss.take N) (N : Int) HSHd.out (by cases ua <;> rfl))
        have B2d : Hid (Below w.heap.size w w2.drew) := B2.out.trans (DD.out.mono B2.out.size)
        clear hkc hKv hkl q0 hD hNe hNK
        have hwr : IntKind.i64.wrap ((L : Int) - (Y : Int)) = (L : Int) - (Y : Int) := by rw [IntKind.wrap_i64]; omega
        have hwd : IntKind.i64.wrap ((Y : Int) + D) = (Y : Int) + D := by rw [IntKind.wrap_i64]; omega
        have hwN : IntKind.i64.wrap (N : Int) = (N : Int) := by rw [IntKind.wrap_i64]; omega
        have d1 : w2.drew.cell? ⟨g, k * 4 + 1, none⟩ = some (.slice ua L uc) := c1
        have d2 : w2.drew.cell? ⟨g, k * 4 + 2, none⟩ = some (.int .i64 (Y : Int)) := c2
        have df2 : w2.drew.frozen? ⟨g, k * 4 + 2, none⟩ = false := f2 _
        go_wp2_with fail
        go_region_law (refine M.stepCall2 rfl 62 (.tmp 49) (.tmp 57) 2 2 rfl (.int .i64 K) (.int .i64 ((L : Int) - (Y : Int))) (by first | (simp [Act.eval, Act.put]; done) | rfl) (by first | (simp [Act.eval, Act.put]; done) | rfl) (.int .i64 D) (fun w' => w2.drew = w') (CMN.out w2.drew) (by kernel_rfl) ?_; rintro w5 rfl)
        all_goals
          try rw [hwd]
          try rw [HND.out]
          try rw [hwN]
          cases ua with
          | none =>
            have hL0 : uc = 0 := HUZ.out rfl
            subst hL0
            obtain rfl : N = 0 := by omega
            obtain rfl : L = 0 := by omega
            go_wp2
            go_roundw
            case rel =>
              refine ⟨k + 1, _, by go_num, by omega, ?_, HN3d.out.widen (Nat.le_refl _) (by simp [World.setCell]), M.stBt (M.stBt B2d.out HGB.out _ _) HGB.out _ _⟩
              exact HNEW.out _
            case measure => simp [intOf]; omega
          | some ua =>
            go_wp2
            go_roundw
            case rel =>
              refine ⟨k + 1, _, by go_num, by omega, ?_, HN3d.out.widen (Nat.le_refl _) (by simp [World.setCell]), M.stBt (M.stBt B2d.out HGB.out _ _) HGB.out _ _⟩
              exact HNEW.out _
            case measure => simp [intOf]; omega
      · obtain rfl : k = n := by omega
        have HM2 : Hid (rs.map Prod.fst = M.crashT ts ks) := by
          show _ = _
          rw [HM.out, HE.out, List.drop_of_length_le (by have := HN.out; omega), List.append_nil, ← HN.out]
        go_wp2
        go_ret
        exact ⟨_, rs, rfl, HM2.out, HOr.out, HBr.out⟩
end Go.Proofs.Ytappficbjjkmiaa

/-
  What TapeClear of the specification does.
-/
namespace Go.Proofs.Ytappficbjjkmiaa
open Go.RowKit

set_option maxRecDepth 100000 in
set_option maxHeartbeats 3200000 in
theorem sClear_any (w : World) (ad : Addr) (n c : Nat) (ts : List M.TapeD) (k : Int) (h : M.Tps w (some ad) n c ts) (hok : ∀ t ∈ ts, M.tok t) (hl : n + M.tln ts ≤ 1048576) :
    Calls Try.prog 24 #[.slice (some ad) n c, .int .i64 k] w fun e w' => ∃ (v : Value) (qs : List (M.TapeD × Value)), e = .returned (.agg #[v, .slice none 0 0, .string ⟨#[]⟩, .int .i64 (M.clearO ts k).2]) ∧ qs.map Prod.fst = (M.clearO ts k).1 ∧ M.OwnT w' w.heap.size w'.heap.size v qs ∧ Below w.heap.size w w' := by
  have HF := M.hl h
  have HN : Hid (n = ts.length) := h.1
  have hnl : n ≤ 1048576 := by omega
  have HL := M.hl hl
  have BO : Hid (∀ o, Below w.heap.size w (w.alloc o)) := fun o => (Below.refl _ _).alloc (Nat.le_refl _) _
  have CR : Hid (∀ o, Calls Try.prog 20 #[.slice (some ad) n c] (w.alloc o) fun e w' => e = .returned (.bool (M.tapesR ts)) ∧ Below (w.alloc o).heap.size (w.alloc o) w') := fun o => sTapesR_any _ (some ad) n c ts (h.below (BO.out o)) hok
  have HOK := M.hl hok
  clear h hok hl
  by_cases h4 : 400 < n
  · have HE := M.hl (M.clear_long (ts := ts) (k := k) (by have := HN.out; omega))
    rw [HE.out]
    go_enter Try.func24, Try.ntmps24
    go_wp2
    refine bodyPost_ret (v := .agg #[.slice none 0 0, .slice none 0 0, .string ⟨#[]⟩, .int .i64 2]) (by simp [results, Try.results24, go_sem]) rfl ⟨_, [], rfl, rfl, M.OwnT.nil _ _ _, ?_⟩
    exact BO.out _
  have h4' : decide (400 < (n : Int)) = false := decide_eq_false (by omega)
  cases hr : M.tapesR ts
  · have HE := M.hl (M.clear_no (ts := ts) (k := k) (by have := HN.out; omega) (fun h => by rw [hr] at h; cases h.1))
    rw [HE.out]
    rw [hr] at CR
    clear hr
    go_enter Try.func24, Try.ntmps24
    go_wp2_with fail
    refine (CR.out _).mono ?_
    rintro e w1 ⟨rfl, hb⟩
    have u0 := (hb.block w.heap.size (by simp)).trans (heap_alloc_new w (.cells #[.slice none 0 0, .slice none 0 0, .string ⟨#[]⟩, .int .i64 0] 29))
    have r0 := M.bk_cell u0 0 (.slice none 0 0) rfl
    have r1 := M.bk_cell u0 1 (.slice none 0 0) rfl
    have r2 := M.bk_cell u0 2 (.string ⟨#[]⟩) rfl
    have r3 := M.bk_cell u0 3 (.int .i64 0) rfl
    have fr := M.bk_free u0
    have B1 := M.hl (M.bxd_below hb)
    clear hb u0
    go_wp2
    refine bodyPost_ret (v := .agg #[.slice none 0 0, .slice none 0 0, .string ⟨#[]⟩, .int .i64 1]) (by simp [results, Try.results24, go_sem, r0, r1, r2, r3]) rfl ⟨_, [], rfl, rfl, M.OwnT.nil _ _ _, ?_⟩
    exact (((B1.out.setCell (by simp) _).setCell (by simp) _).setCell (by simp) _).setCell (by simp) _
  rw [hr] at CR
  by_cases hk : 0 ≤ k ∧ k < (n : Int)
  case neg =>
    have HE := M.hl (M.clear_no (ts := ts) (k := k) (by have := HN.out; omega) (fun h => hk (by rw [HN.out]; exact h.2)))
    rw [HE.out]
    have hd : decide (k < 0) = true ∨ decide (k < 0) = false ∧ decide ((n : Int) ≤ k) = true := by
      by_cases e : k < 0
      · exact .inl (decide_eq_true e)
      · exact .inr ⟨decide_eq_false e, decide_eq_true (by omega)⟩
    clear hr hk
    rcases hd with d1 | ⟨d1, d2⟩
    all_goals
      go_enter Try.func24, Try.ntmps24
      go_wp2_with fail
      refine (CR.out _).mono ?_
      rintro e w1 ⟨rfl, hb⟩
      have u0 := (hb.block w.heap.size (by simp)).trans (heap_alloc_new w (.cells #[.slice none 0 0, .slice none 0 0, .string ⟨#[]⟩, .int .i64 0] 29))
      have r0 := M.bk_cell u0 0 (.slice none 0 0) rfl
      have r1 := M.bk_cell u0 1 (.slice none 0 0) rfl
      have r2 := M.bk_cell u0 2 (.string ⟨#[]⟩) rfl
      have r3 := M.bk_cell u0 3 (.int .i64 0) rfl
      have fr := M.bk_free u0
      have B1 := M.hl (M.bxd_below hb)
      clear hb u0
      go_wp2
      refine bodyPost_ret (v := .agg #[.slice none 0 0, .slice none 0 0, .string ⟨#[]⟩, .int .i64 1]) (by simp [results, Try.results24, go_sem, r0, r1, r2, r3]) rfl ⟨_, [], rfl, rfl, M.OwnT.nil _ _ _, ?_⟩
      exact (((B1.out.setCell (by simp) _).setCell (by simp) _).setCell (by simp) _).setCell (by simp) _
  obtain ⟨hk0, hk1⟩ := hk
  obtain ⟨k, rfl⟩ := Int.eq_ofNat_of_zero_le hk0
  have hkn : k < n := by omega
  have dk0 : decide ((k : Int) < 0) = false := decide_eq_false (by omega)
  have dk1 : decide ((n : Int) ≤ (k : Int)) = false := decide_eq_false (by omega)
  have dk2 : decide (n ≤ k) = false := decide_eq_false (by omega)
  obtain ⟨b, off, t, hadd, hfk, hat⟩ := HF.out.at hkn
  cases hadd
  have HFK := M.hl hfk
  have hrt := M.tapeR_iff.1 ((M.tapesR_iff.1 hr).2 t (List.mem_of_getElem? hfk))
  have HR := M.hl hr
  obtain ⟨x, ss, y, z⟩ := t
  obtain ⟨⟨hx0, hx1⟩, -⟩ := hrt
  simp only at hx0 hx1
  obtain ⟨c0, -, -, c3⟩ := hat
  simp only at c0 c3
  have C0 : Hid (∀ W, Below w.heap.size w W → W.cell? ⟨b, off + k * 4, none⟩ = some (.int .i64 x)) := fun W hW => (hW.cell (p := ⟨b, off + k * 4, none⟩) (World.block_lt_of_cell? w _ c0)).trans c0
  have C3 : Hid (∀ W, Below w.heap.size w W → W.cell? ⟨b, off + k * 4 + 3, none⟩ = some (.int .i64 z)) := fun W hW => (hW.cell (p := ⟨b, off + k * 4 + 3, none⟩) (World.block_lt_of_cell? w _ c3)).trans c3
  have HBL : Hid (b < w.heap.size) := World.block_lt_of_cell? w _ c0
  clear hr hfk c0 c3 hk0 hk1
  by_cases hl : x = 1000000
  · have HE := M.hl (M.clear_last (by have := HN.out; omega) HR.out HFK.out hl)
    rw [HE.out]
    subst hl
    go_enter Try.func24, Try.ntmps24
    go_wp2_with fail
    refine (CR.out _).mono ?_
    rintro e w1 ⟨rfl, hb⟩
    have u0 := (hb.block w.heap.size (by simp)).trans (heap_alloc_new w (.cells #[.slice none 0 0, .slice none 0 0, .string ⟨#[]⟩, .int .i64 0] 29))
    have r0 := M.bk_cell u0 0 (.slice none 0 0) rfl
    have r1 := M.bk_cell u0 1 (.slice none 0 0) rfl
    have r2 := M.bk_cell u0 2 (.string ⟨#[]⟩) rfl
    have r3 := M.bk_cell u0 3 (.int .i64 0) rfl
    have fr := M.bk_free u0
    have B1 := M.hl (M.bxd_below hb)
    have q0 := C0.out w1 B1.out
    clear hb u0
    go_wp2
    refine bodyPost_ret (v := .agg #[.slice none 0 0, .slice none 0 0, .string ⟨#[]⟩, .int .i64 8]) (by simp [results, Try.results24, go_sem, r0, r1, r2, r3]) rfl ⟨_, [], rfl, rfl, M.OwnT.nil _ _ _, ?_⟩
    exact (((B1.out.setCell (by simp) _).setCell (by simp) _).setCell (by simp) _).setCell (by simp) _
  have HE := M.hl (M.clear_yes (by have := HN.out; omega) HR.out HFK.out hl)
  have dl : ((x : Int) == 1000000) = false := by rw [beq_eq_false_iff_ne]; exact hl
  clear hl
  go_enter Try.func24, Try.ntmps24
  go_wp2_with fail
  refine (CR.out _).mono ?_
  rintro e w1 ⟨rfl, hb⟩
  have U0 := M.hl ((hb.block w.heap.size (by simp)).trans (heap_alloc_new w (.cells #[.slice none 0 0, .slice none 0 0, .string ⟨#[]⟩, .int .i64 0] 29)))
  have B1 := M.hl (M.bxd_below hb)
  have q0 := C0.out w1 B1.out
  clear hb
  go_wp2_with fail
  refine (sCopyTp_any w1 ⟨b, off, none⟩ n c ts (HF.out.below B1.out) HL.out).mono ?_
  rintro e w3 ⟨v, qs, rfl, hq, hO, hb⟩
  have hql : qs.length = n := by rw [HN.out, ← hq, List.length_map]
  obtain ⟨g, vc, rfl⟩ : ∃ g vc, v = .slice (some ⟨g, 0, none⟩) n vc := by
    obtain ⟨⟨-, ⟨-, h0⟩ | ⟨g, cap, cur, e, -⟩⟩, -, -, -⟩ := hO
    · omega
    · rw [hql] at e; exact ⟨g, cap, e⟩
  have HO := M.hl hO
  have HQ := M.hl hq
  have B3 := M.hl (M.sl B1.out hb)
  have hz1 : w.heap.size < w1.heap.size := (Array.getElem?_eq_some_iff.1 U0.out).1
  have U3 := M.hl ((hb.block _ hz1).trans U0.out)
  clear hb hO hq q0
  have B4 := M.hl B3.out
  have O4 := M.hl HO.out
  have U4 := M.hl U3.out
  clear U0 U3 HO
  obtain ⟨-, hgb, hnc, -, hR4, hP4⟩ := O4.out.place
  have hqk : ∃ u, qs[k]? = some (⟨x, ss, y, z⟩, u) := by
    have h1 : (qs.map Prod.fst)[k]? = some ⟨x, ss, y, z⟩ := by rw [HQ.out]; exact HFK.out
    rw [List.getElem?_map] at h1
    cases hq : qs[k]? with
    | none => rw [hq] at h1; cases h1
    | some p => rw [hq] at h1; exact ⟨p.2, by rw [← Option.some.inj h1]⟩
  obtain ⟨u, hqk⟩ := hqk
  have HQK := M.hl hqk
  obtain ⟨g0, g1, g2, g3⟩ := hP4 k _ hqk
  simp only at g0 g1 g2 g3
  have fg := hR4.free
  have hgt : g < w3.heap.size := O4.out.top g rfl
  have HGB := M.hl hgb
  have q0 := C0.out w3 B4.out
  have q3 := C3.out w3 B4.out
  have hwx : IntKind.i64.wrap (x + 1) = x + 1 := by rw [IntKind.wrap_i64]; omega
  clear hqk hP4 hR4 hnc hgb
  go_wp2_with fail
  go_region_with (fail)
  all_goals
    obtain ⟨W5, hW5⟩ : ∃ W5, W5 = ((((w3.setCell ⟨g, k * 4, none⟩ (.int .i64 (x + 1))).setCell ⟨g, k * 4 + 1, none⟩ (.slice none 0 0)).setCell ⟨g, k * 4 + 2, none⟩ (.int .i64 0)).setCell ⟨g, k * 4 + 3, none⟩ (.int .i64 z)).drew := ⟨_, rfl⟩
    have O5 := M.hl ((O4.out.clr HQK.out (x + 1) z).below (Below.refl _ _).drew)
    have U5 : Hid (W5.heap[w.heap.size]? = some (.cells #[.slice none 0 0, .slice none 0 0, .string ⟨#[]⟩, .int .i64 0] 29 (0, 0))) := by
      have := HGB.out
      rw [hW5]; exact (M.setfr (by omega)).trans ((M.setfr (by omega)).trans ((M.setfr (by omega)).trans ((M.setfr (by omega)).trans U4.out)))
    have B5 : Hid (Below w.heap.size w W5) := by
      have := HGB.out
      rw [hW5]; exact ((((B4.out.setCell (by simp; omega) _).setCell (by simp; omega) _).setCell (by simp; omega) _).setCell (by simp; omega) _).trans (Below.refl _ _).drew
    have HZ5 : Hid (w3.heap.size ≤ W5.heap.size) := by rw [hW5]; show _ ≤ _; simp [World.setCell]
    rw [← hW5] at O5
    rw [← hW5]
    have HZ1 := M.hl hz1
    clear hW5 O4 U4 B4 g0 g1 g2 g3 fg q0 q3
    have r0 := M.bk_cell U5.out 0 (.slice none 0 0) rfl
    have r1 := M.bk_cell U5.out 1 (.slice none 0 0) rfl
    have r2 := M.bk_cell U5.out 2 (.string ⟨#[]⟩) rfl
    have r3 := M.bk_cell U5.out 3 (.int .i64 0) rfl
    have fr := M.bk_free U5.out
    go_wp2
    refine bodyPost_ret (v := .agg #[.slice (some ⟨g, 0, none⟩) n vc, .slice none 0 0, .string ⟨#[]⟩, .int .i64 0]) (by simp [results, Try.results24, go_sem, r0, r1, r2, r3]) rfl ?_
    rw [HE.out]
    refine ⟨_, _, rfl, ?_, (O5.out.mid (((((M.Mid.refl w.heap.size (w.heap.size + 1) W5).setCell (Nat.le_refl _) (by omega) 0 (.slice (some ⟨g, 0, none⟩) n vc)).setCell (Nat.le_refl _) (by omega) 1 (.slice none 0 0)).setCell (Nat.le_refl _) (by omega) 2 (.string ⟨#[]⟩)).setCell (Nat.le_refl _) (by omega) 3 (.int .i64 0)) (.inr (by have := HZ1.out; omega))).widen (by have := HZ1.out; omega) (by have := HZ5.out; simp [World.setCell]; omega), (((B5.out.setCell (by simp) _).setCell (by simp) _).setCell (by simp) _).setCell (by simp) _⟩
    rw [List.map_append, List.map_cons, List.map_take, List.map_drop, HQ.out]
end Go.Proofs.Ytappficbjjkmiaa
