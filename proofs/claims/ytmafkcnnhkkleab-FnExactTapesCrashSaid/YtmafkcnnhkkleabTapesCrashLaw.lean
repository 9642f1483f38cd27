/-
  TapesCrash of the program answers as that of the specification, at every row of tapes and every row of numbers; its answer owns its memory.
-/
import Derived.Test.YtmafkcnnhkkleabTapeToS
import Derived.Test.YtmafkcnnhkkleabTapeSz
import Derived.Test.YtmafkcnnhkkleabTapeEq
import Derived.Test.YtmafkcnnhkkleabTapeMarks
import Derived.Test.YtmafkcnnhkkleabKeptSW
import Derived.Test.YtmafkcnnhkkleabICrashL
import Derived.Test.YtmafkcnnhkkleabSCrash
namespace Go.Proofs.Ytmafkcnnhkkleab
open Go.RowKit

theorem M.crashT_le (ts : List M.TapeD) (ks : List Int) : (M.crashT ts ks).length ≤ ts.length ∧ M.tln (M.crashT ts ks) ≤ M.tln ts := by
  unfold M.crashT
  split
  · exact ⟨Nat.zero_le _, by simp [M.tln]⟩
  · split
    · refine ⟨by simp [M.lefts_len], ?_⟩
      have h1 := M.lefts_tln ts ks ts.length (Nat.le_refl _)
      rw [List.take_length] at h1
      unfold M.tln at h1 ⊢
      rw [List.map_map]
      exact h1
    · exact ⟨Nat.le_refl _, Nat.le_refl _⟩
theorem M.NumsAt.ints {w : World} {g cap n : Nat} {zs : List Int} (h : M.NumsAt w g cap zs) (hn : n = zs.length) : M.Ints w (some ⟨g, 0, none⟩) n zs := by subst hn; exact h.nv
theorem M.NumsAt.below {w w' : World} {g cap : Nat} {zs : List Int} (h : M.NumsAt w g cap zs) (hb : Below w.heap.size w w') : M.NumsAt w' g cap zs := h.of_block (hb.block g h.lt)
theorem M.NumsAt.mid {w w' : World} {g cap lo hi : Nat} {zs : List Int} (h : M.NumsAt w g cap zs) (hm : M.Mid lo hi w w') (ho : g < lo ∨ hi ≤ g) : M.NumsAt w' g cap zs := h.of_block (hm.block g h.lt ho)
theorem M.Ints.nv {w : World} {a : Option Addr} {len : Nat} {zs : List Int} (h : M.Ints w a len zs) : M.NV w a len zs := h
theorem M.NV.below {w w' : World} {a : Option Addr} {len : Nat} {zs : List Int} (h : M.NV w a len zs) (hb : Below w.heap.size w w') : M.NV w' a len zs := M.Ints.below h hb
theorem M.grown_mid {a b : World} {g : Nat} (h : a.grownBy b (some g)) : M.Mid g (g + 1) a b := M.Mid.of_grown h (fun k e => by cases e; omega)

set_option maxRecDepth 100000 in
set_option maxHeartbeats 3200000 in
theorem fnExactTapesCrash_walk (a0 : Option Addr) (n c : Nat) (ts : List M.TapeD) (a1 : Option Addr) (nk ck : Nat) (ks : List Int) (w : World) (h : M.Tps w a0 n c ts) (hok : ∀ t ∈ ts, M.tok t) (hk : M.NV w a1 nk ks) (hkm : nk ≤ maxLen) :
    Calls Try.prog 3 #[.slice a0 n c, .slice a1 nk ck] w fun e w' => e = .returned (.bool true) ∧ Below w.heap.size w w' := by
  have HS := M.hl h
  have HO := M.hl hok
  have HK := M.hl hk
  have HN : Hid (n = ts.length) := h.1
  have HNK : Hid (nk = ks.length) := hk.1
  have hkm2 : nk ≤ 9223372036854775807 := by unfold maxLen at hkm; omega
  clear h hok hk hkm
  by_cases hbig : 1048576 < nk
  · have d1 : decide (1048576 < (nk : Int)) = true := decide_eq_true (by omega)
    go_enter Try.func3, Try.ntmps3
    go_wp2
    go_ret
    exact ⟨rfl, Below.refl _ _⟩
  have hkl : nk ≤ 1048576 := by omega
  have HKL := M.hl hkl
  have d1 : decide (1048576 < (nk : Int)) = false := decide_eq_false (by omega)
  go_enter Try.func3, Try.ntmps3
  go_wp2_with fail
  refine (szTapeS_any _ a0 n c ts HS.out HO.out).mono ?_
  rintro e w1 ⟨v, rfl, hv1, hv2, hb⟩
  have HV2 := M.hl hv2
  have B1 := M.hl hb
  clear hv2 hb
  by_cases hneg : v < 0
  · go_wp2
    go_ret
    exact ⟨rfl, B1.out⟩
  have HL : Hid (n + M.tln ts ≤ 1048576) := by have := (HV2.out (by omega)).1; show _ ≤ _; omega
  have HSM : Hid (∀ t ∈ ts, ∀ s ∈ t.ss, s.size ≤ 100000000) := fun t ht s hs => by have := (HV2.out (by omega)).2 t ht s hs; omega
  clear HV2
  go_wp2_with fail
  refine (toTapeS_any w1 a0 n c ts (HS.out.below B1.out) HL.out).mono ?_
  rintro e w2 ⟨p1, ps, rfl, hp, hO, hb⟩
  have S2 := M.hl (hO.at_slice hp)
  have B2 := M.hl (M.sl B1.out hb)
  clear hp hO hb B1
  go_wp2_with fail
  refine (toInt64S_any w2 a1 nk ck ks (HK.out.below B2.out) HKL.out).mono ?_
  rintro e w2 ⟨k2, rfl, hN, -, hb⟩
  have S2 := M.hl (S2.out.below hb)
  have I2 := M.hl (hN.ints HNK.out)
  have B2 := M.hl (M.sl B2.out hb)
  clear hN hb
  go_wp2_with fail
  refine (sCrash_any w2 _ n n ts _ nk nk ks S2.out HO.out HL.out I2.out HKL.out).mono ?_
  rintro e w3 ⟨v3, qs3, rfl, hq3, hO, hb⟩
  have O3 := M.hl hO
  have Q3 := M.hl hq3
  have B3 := M.hl (M.sl B2.out hb)
  clear hq3 hO hb S2 B2 I2
  go_wp2_with fail
  refine (toTapeS_any w3 a0 n c ts (HS.out.below B3.out) HL.out).mono ?_
  rintro e w4 ⟨q1, ps4, rfl, hp, hO, hb⟩
  have S4 := M.hl (hO.at_slice hp)
  have O4 := M.hl hO
  have P4 := M.hl hp
  have Z34 := M.hl hb.size
  have B4 := M.hl (M.sl B3.out hb)
  have O34 := M.hl (O3.out.below hb)
  have ZB3 := M.hl B3.out.size
  clear hp hO hb O3
  go_wp2_with fail
  refine (toInt64S_any w4 a1 nk ck ks (HK.out.below B4.out) HKL.out).mono ?_
  rintro e wj ⟨kj, rfl, hN, hkj, hb⟩
  have S4 := M.hl (S4.out.below hb)
  have N4 := M.hl hN
  have I4 := M.hl (hN.ints HNK.out)
  have KJ : Hid (w4.heap.size ≤ kj ∧ kj < wj.heap.size) := ⟨hkj, hN.lt⟩
  have Z4j := M.hl hb.size
  have O34 := M.hl (O34.out.below hb)
  have O4 := M.hl (O4.out.below hb)
  have B4 := M.hl (M.sl B4.out hb)
  clear hN hb hkj
  go_wp2_with fail
  refine (iCrash_any wj _ n n ts _ nk nk ks S4.out HO.out HSM.out HL.out I4.out HKL.out).mono ?_
  rintro e w5 ⟨v5, qs5, rfl, hq5, hO, hb⟩
  have O5 := M.hl hO
  have Q5 := M.hl hq5
  have Zj5 := M.hl hb.size
  have B5 := M.hl (M.sl B4.out hb)
  have O35 := M.hl (O34.out.below hb)
  have O45 := M.hl (O4.out.below hb)
  have N5 := M.hl (N4.out.below hb)
  clear hq5 hO hb O34 O4 S4 N4 I4
  have L3 : Hid (∃ L, qs3.length = L ∧ qs5.length = L ∧ L ≤ 1048576) := by
    refine ⟨_, rfl, ?_, ?_⟩
    · rw [← List.length_map (f := Prod.fst), Q5.out, ← Q3.out, List.length_map]
    · have h1 := (M.crashT_le ts ks).1
      rw [← Q3.out, List.length_map] at h1
      have := HL.out
      have := HN.out
      omega
  obtain ⟨L, hL3, hL5, hLm⟩ := L3.out
  obtain ⟨a3, c3, rfl⟩ := O35.out.lenN hL3
  obtain ⟨a5, c5, rfl⟩ := O5.out.lenN hL5
  have HL3 := M.hl hL3
  have HL5 := M.hl hL5
  clear hL3 hL5 L3
  have EQ : Hid (∀ W, M.OwnT W w2.heap.size w3.heap.size (.slice a3 L c3) qs3 → M.OwnT W wj.heap.size w5.heap.size (.slice a5 L c5) qs5 → Calls Try.prog 10 #[.slice a5 L c5, .slice a3 L c3] W fun e w' => e = .returned (.bool true) ∧ Below W.heap.size W w') := fun W h3 h5 => eqTapeS_same W _ _ L c5 L c3 (M.crashT ts ks) (h5.at_slice Q5.out) (h3.at_slice Q3.out)
  go_wp2_with fail
  refine (EQ.out w5 O35.out O5.out).mono ?_
  rintro e w6 ⟨rfl, hb⟩
  have O36 := M.hl (O35.out.below hb)
  have O46 := M.hl (O45.out.below hb)
  have O56 := M.hl (O5.out.below hb)
  have N6 := M.hl (N5.out.below hb)
  have Z56 := M.hl hb.size
  have B6 := M.hl (M.sl B5.out hb)
  clear hb O35 O45 O5 N5
  go_wp2_with fail
  refine (toTapeS_any w6 a0 n c ts (HS.out.below B6.out) HL.out).mono ?_
  rintro e w7 ⟨r1, rs, rfl, hp, hO, hb⟩
  have S7 := M.hl (hO.at_slice hp)
  have O37 := M.hl (O36.out.below hb)
  have O47 := M.hl (O46.out.below hb)
  have O57 := M.hl (O56.out.below hb)
  have N7 := M.hl (N6.out.below hb)
  have Z67 := M.hl hb.size
  have B7 := M.hl (M.sl B6.out hb)
  clear hp hO hb O36 O46 O56 N6
  go_wp2_with fail
  refine (eqTapeS_same w7 _ _ n n n n ts (O47.out.at_slice P4.out) S7.out).mono ?_
  rintro e w7 ⟨rfl, hb⟩
  have O37 := M.hl (O37.out.below hb)
  have O47 := M.hl (O47.out.below hb)
  have O57 := M.hl (O57.out.below hb)
  have N7 := M.hl (N7.out.below hb)
  have Z67 := M.hl (Nat.le_trans Z67.out hb.size)
  have B7 := M.hl (M.sl B7.out hb)
  clear hb S7
  go_wp2_with fail
  refine (toInt64S_any w7 a1 nk ck ks (HK.out.below B7.out) HKL.out).mono ?_
  rintro e w8 ⟨k8, rfl, hN, -, hb⟩
  have I8 := M.hl (hN.ints HNK.out)
  have O37 := M.hl (O37.out.below hb)
  have O47 := M.hl (O47.out.below hb)
  have O57 := M.hl (O57.out.below hb)
  have N7 := M.hl (N7.out.below hb)
  have Z67 := M.hl (Nat.le_trans Z67.out hb.size)
  have B7 := M.hl (M.sl B7.out hb)
  have EI : Hid (Calls Try.prog 11 #[.slice (some ⟨kj, 0, none⟩) nk nk, .slice (some ⟨k8, 0, none⟩) nk nk] w8 fun e w' => e = .returned (.bool true) ∧ Below w8.heap.size w8 w') := eqInt64S_nv w8 _ _ nk nk nk ks (N7.out.ints HNK.out) I8.out (by have := HKL.out; omega)
  clear hN hb I8
  go_wp2_with fail
  refine EI.out.mono ?_
  rintro e w8' ⟨rfl, hb⟩
  have O38 := M.hl (O37.out.below hb)
  have O48 := M.hl (O47.out.below hb)
  have O58 := M.hl (O57.out.below hb)
  have N8 := M.hl (N7.out.below hb)
  have Z68 := M.hl (Nat.le_trans Z67.out hb.size)
  have B8 := M.hl (M.sl B7.out hb)
  clear hb O37 O47 O57 EI N7 Z67 B7
  have hT4 : M.tend ps4 1 ≤ 40000000 := M.tend_le (A := 1048576) (by have h1 := congrArg List.length P4.out; rw [List.length_map] at h1; have := HL.out; have := HN.out; omega) (by rw [P4.out]; have := HL.out; omega) (by omega) (by omega)
  have hT5 : M.tend qs5 1 ≤ 40000000 := M.tend_le (A := 1048576) (by have := HL5.out; omega) (by rw [Q5.out]; have := (M.crashT_le ts ks).2; have := HL.out; omega) (by omega) (by omega)
  have CM4 := M.hl (markTapeS_own w8' _ _ _ ps4 1 O48.out (Nat.le_refl _) hT4)
  have CM5 : Hid (∀ W, M.OwnT W wj.heap.size w5.heap.size (.slice a5 L c5) qs5 → Calls Try.prog 12 #[.slice a5 L c5, .int .i64 (1 : Nat)] W fun e w' => e = .returned (.int .i64 ((M.tend qs5 1 : Nat) : Int)) ∧ M.OwnT w' wj.heap.size w5.heap.size (.slice a5 L c5) (M.tmarks qs5 1) ∧ M.Mid wj.heap.size w5.heap.size W w') := fun W hW => markTapeS_own W _ _ _ qs5 1 hW (Nat.le_refl _) hT5
  have CH5 : Hid (∀ W, M.OwnT W wj.heap.size w5.heap.size (.slice a5 L c5) (M.tmarks qs5 1) → Calls Try.prog 14 #[.slice a5 L c5, .int .i64 (1 : Nat)] W fun e w' => e = .returned (.int .i64 ((M.tend qs5 1 : Nat) : Int)) ∧ Below W.heap.size W w') := fun W hW => heldTapeS_own W _ _ _ qs5 1 hW (Nat.le_refl _) hT5
  generalize M.tend ps4 1 = N4 at hT4 CM4
  generalize M.tend qs5 1 = N5 at hT5 CM5 CH5
  have CI4 : Hid (∀ W, M.NumsAt W kj nk ks → Calls Try.prog 13 #[.slice (some ⟨kj, 0, none⟩) nk nk, .int .i64 (N4 : Int)] W fun e w' => ∃ v : Int, e = .returned (.int .i64 v) ∧ 0 ≤ v ∧ W.grownBy w' (some kj)) := fun W hW => markInt64S_on W kj nk nk ks (N4 : Int) hW HNK.out HKL.out (by omega) (by omega)
  have d5 : decide ((N5 : Int) < 0) = false := decide_eq_false (by omega)
  have dq : ((N5 : Int) != (N5 : Int)) = false := by simp
  rw [show ((1 : Nat) : Int) = 1 from rfl] at CM4 CM5 CH5
  have ZA : Hid (w5.heap.size ≤ w8'.heap.size ∧ w4.heap.size ≤ w5.heap.size) := ⟨Nat.le_trans Z56.out Z68.out, Nat.le_trans Z4j.out Zj5.out⟩
  go_wp2_with fail
  refine CM4.out.mono ?_
  rintro e w9 ⟨rfl, -, hm⟩
  have O39 := M.hl (O38.out.mid hm (.inl (Nat.le_refl _)))
  have O59 := M.hl (O58.out.mid hm (.inr Z4j.out))
  have N9 := M.hl (N8.out.mid hm (.inr KJ.out.1))
  have Z89 := M.hl hm.size
  have B9 := M.hl (M.midB B8.out hm ZB3.out (Nat.le_trans Z34.out (Nat.le_trans ZA.out.2 ZA.out.1)))
  clear hm O38 O48 O58 CM4 N8
  go_wp2_with fail
  refine (CI4.out w9 N9.out).mono ?_
  rintro e w9' ⟨vj, rfl, hvj, hg⟩
  have hm := M.grown_mid hg
  have O39 := M.hl (O39.out.mid hm (.inl (Nat.le_trans Z34.out KJ.out.1)))
  have O59 := M.hl (O59.out.mid hm (.inr KJ.out.2))
  have Z89 := M.hl (Nat.le_trans Z89.out hm.size)
  have B9 := M.hl (M.midB B9.out hm (Nat.le_trans ZB3.out (Nat.le_trans Z34.out KJ.out.1)) (by have h1 := N9.out.lt; omega))
  have d4 : decide (vj < 0) = false := decide_eq_false (by omega)
  clear hm hg N9
  go_wp2_with fail
  refine (EQ.out w9' O39.out O59.out).mono ?_
  rintro e w10 ⟨rfl, hb⟩
  have O310 := M.hl (O39.out.below hb)
  have O510 := M.hl (O59.out.below hb)
  have Z910 := M.hl hb.size
  have B10 := M.hl (M.sl B9.out hb)
  clear hb O39 O59
  go_wp2_with fail
  refine (CM5.out w10 O510.out).mono ?_
  rintro e w11 ⟨rfl, hO, hm⟩
  have O511 := M.hl hO
  have O311 := M.hl (O310.out.mid hm (.inl (Nat.le_trans Z34.out Z4j.out)))
  have B11 := M.hl (M.midB B10.out hm (Nat.le_trans ZB3.out (Nat.le_trans Z34.out Z4j.out)) (Nat.le_trans Zj5.out (Nat.le_trans ZA.out.1 (Nat.le_trans Z89.out Z910.out))))
  clear hO hm O310 O510
  go_wp2_with fail
  refine (CH5.out w11 O511.out).mono ?_
  rintro e w12 ⟨rfl, hb⟩
  have O512 := M.hl (O511.out.below hb)
  have O312 := M.hl (O311.out.below hb)
  have B12 := M.hl (M.sl B11.out hb)
  clear hb O511 O311
  go_wp2_with fail
  refine (toTapeS_any w12 a0 n c ts (HS.out.below B12.out) HL.out).mono ?_
  rintro e w13 ⟨r13, rs13, rfl, hp, hO, hb⟩
  have S13 := M.hl (hO.at_slice hp)
  have O513 := M.hl (O512.out.below hb)
  have O313 := M.hl (O312.out.below hb)
  have B13 := M.hl (M.sl B12.out hb)
  clear hp hO hb O512 O312
  go_wp2_with fail
  refine (toInt64S_any w13 a1 nk ck ks (HK.out.below B13.out) HKL.out).mono ?_
  rintro e w13 ⟨k13, rfl, hN, -, hb⟩
  have S13 := M.hl (S13.out.below hb)
  have I13 := M.hl (hN.ints HNK.out)
  have O513 := M.hl (O513.out.below hb)
  have O313 := M.hl (O313.out.below hb)
  have B13 := M.hl (M.sl B13.out hb)
  clear hN hb
  go_wp2_with fail
  refine (iCrash_any w13 _ n n ts _ nk nk ks S13.out HO.out HSM.out HL.out I13.out HKL.out).mono ?_
  rintro e w14 ⟨v14, qs14, rfl, hq, hO, hb⟩
  have hL14 : qs14.length = L := by rw [← List.length_map (f := Prod.fst), hq, ← Q5.out, List.length_map]; exact HL5.out
  obtain ⟨a14, c14, rfl⟩ := hO.lenN hL14
  have S14 := M.hl (hO.at_slice hq)
  have O514 := M.hl (O513.out.below hb)
  have O314 := M.hl (O313.out.below hb)
  have B14 := M.hl (M.sl B13.out hb)
  clear hq hO hb hL14 O513 O313 S13 I13
  go_wp2_with fail
  refine (eqTapeS_same w14 _ _ L c14 L c3 (M.crashT ts ks) S14.out (O314.out.at_slice Q3.out)).mono ?_
  rintro e w15 ⟨rfl, hb⟩
  have O515 := M.hl (O514.out.below hb)
  have B15 := M.hl (M.sl B14.out hb)
  clear hb O514 O314
  go_wp2_with fail
  refine (CH5.out w15 O515.out).mono ?_
  rintro e w16 ⟨rfl, hb⟩
  have B16 := M.hl (M.sl B15.out hb)
  clear hb
  go_wp2
  go_ret
  exact ⟨rfl, B16.out⟩
end Go.Proofs.Ytmafkcnnhkkleab
