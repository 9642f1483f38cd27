/-
  TapesSync of the program answers as that of the specification, at every row of tapes; its answer owns its memory.
-/
import Derived.Test.YtmeblchkccmkcaaTapesRLaw
import Derived.Test.YtmeblchkccmkcaaSSync
namespace Go.Proofs.Ytmeblchkccmkcaa
open Go.RowKit

theorem M.tsync_tln (ts : List M.TapeD) : M.tln (ts.map M.tsync) = M.tln ts := by
  unfold M.tln
  rw [List.map_map]
  rfl
theorem M.syncT_len (ts : List M.TapeD) : (M.syncT ts).length ≤ ts.length ∧ M.tln (M.syncT ts) ≤ M.tln ts := by
  unfold M.syncT
  split
  · exact ⟨Nat.zero_le _, by simp [M.tln]⟩
  · split
    · exact ⟨by simp, Nat.le_of_eq (M.tsync_tln ts)⟩
    · exact ⟨Nat.le_refl _, Nat.le_refl _⟩
theorem M.tend_le {ps : List (M.TapeD × Value)} {k A : Nat} (h1 : ps.length ≤ 1048576) (h2 : M.tln (ps.map Prod.fst) ≤ A) (hk : k ≤ 10000000) (hA : A ≤ 2000000) : M.tend ps k ≤ 40000000 := by
  rw [M.tend_eq]; omega
theorem M.midB {lo hi : Nat} {w a b : World} (h : Below w.heap.size w a) (hm : M.Mid lo hi a b) (hl : w.heap.size ≤ lo) (ha : lo ≤ a.heap.size) : Below w.heap.size w b :=
  h.trans ((hm.below ha).mono hl)

set_option maxRecDepth 100000 in
set_option maxHeartbeats 3200000 in
theorem fnExactTapesSync_walk (a0 : Option Addr) (n c : Nat) (ts : List M.TapeD) (w : World) (h : M.Tps w a0 n c ts) (hok : ∀ t ∈ ts, M.tok t) :
    Calls Try.prog 8 #[.slice a0 n c] w fun e w' => e = .returned (.bool true) ∧ Below w.heap.size w w' := by
  have HS := M.hl h
  have HO := M.hl hok
  have HN : Hid (n = ts.length) := h.1
  clear h hok
  go_enter Try.func8, Try.ntmps8
  go_wp2_with fail
  refine (szTapeS_any _ a0 n c ts HS.out HO.out).mono ?_
  rintro e w1 ⟨v, rfl, hv1, hv2, hb⟩
  have HV2 := M.hl hv2
  have B1 := M.hl hb
  clear hv2 hb
  by_cases hneg : v < 0
  · go_wp2
    go_ret
    exact ⟨rfl, B1.out⟩
  have HL : Hid (n + M.tln ts ≤ 1048576) := by have := (HV2.out (by omega)).1; show _ ≤ _; omega
  have HSM : Hid (∀ t ∈ ts, ∀ s ∈ t.ss, s.size ≤ 100000000) := fun t ht s hs => by have := (HV2.out (by omega)).2 t ht s hs; omega
  clear HV2
  go_wp2_with fail
  refine (toTapeS_any w1 a0 n c ts (HS.out.below B1.out) HL.out).mono ?_
  rintro e w2 ⟨p1, ps, rfl, hp, hO, hb⟩
  have S2 := M.hl (hO.at_slice hp)
  have B2 := M.hl (M.sl B1.out hb)
  clear hp hO hb B1
  go_wp2_with fail
  refine (sSync_any w2 _ n n ts S2.out HO.out HL.out).mono ?_
  rintro e w3 ⟨v3, qs3, rfl, hq3, hO, hb⟩
  have O3 := M.hl hO
  have Q3 := M.hl hq3
  have B3 := M.hl (M.sl B2.out hb)
  clear hq3 hO hb S2 B2
  go_wp2_with fail
  refine (toTapeS_any w3 a0 n c ts (HS.out.below B3.out) HL.out).mono ?_
  rintro e w4 ⟨q1, ps4, rfl, hp, hO, hb⟩
  have S4 := M.hl (hO.at_slice hp)
  have O4 := M.hl hO
  have P4 := M.hl hp
  have Z34 := M.hl hb.size
  have B4 := M.hl (M.sl B3.out hb)
  have O34 := M.hl (O3.out.below hb)
  have ZB3 := M.hl B3.out.size
  clear hp hO hb O3
  go_wp2_with fail
  refine (iSync_any w4 _ n n ts S4.out HO.out HSM.out HL.out).mono ?_
  rintro e w5 ⟨v5, qs5, rfl, hq5, hO, hb⟩
  have O5 := M.hl hO
  have Q5 := M.hl hq5
  have Z45 := M.hl hb.size
  have B5 := M.hl (M.sl B4.out hb)
  have O35 := M.hl (O34.out.below hb)
  have O45 := M.hl (O4.out.below hb)
  clear hq5 hO hb O34 O4 S4
  have L3 : Hid (∃ L, qs3.length = L ∧ qs5.length = L ∧ L ≤ 1048576) := by
    refine ⟨_, rfl, ?_, ?_⟩
    · rw [← List.length_map (f := Prod.fst), Q5.out, ← Q3.out, List.length_map]
    · have h1 := (M.syncT_len ts).1
      rw [← Q3.out, List.length_map] at h1
      have := HL.out
      have := HN.out
      omega
  obtain ⟨L, hL3, hL5, hLm⟩ := L3.out
  obtain ⟨a3, c3, rfl⟩ := O35.out.lenN hL3
  obtain ⟨a5, c5, rfl⟩ := O5.out.lenN hL5
  have HL3 := M.hl hL3
  have HL5 := M.hl hL5
  clear hL3 hL5 L3
  have EQ : Hid (∀ W, M.OwnT W w2.heap.size w3.heap.size (.slice a3 L c3) qs3 → M.OwnT W w4.heap.size w5.heap.size (.slice a5 L c5) qs5 → Calls Try.prog 27 #[.slice a5 L c5, .slice a3 L c3] W fun e w' => e = .returned (.bool true) ∧ Below W.heap.size W w') := fun W h3 h5 => eqTapeS_same W _ _ L c5 L c3 (M.syncT ts) (h5.at_slice Q5.out) (h3.at_slice Q3.out)
  go_wp2_with fail
  refine (EQ.out w5 O35.out O5.out).mono ?_
  rintro e w6 ⟨rfl, hb⟩
  have O36 := M.hl (O35.out.below hb)
  have O46 := M.hl (O45.out.below hb)
  have O56 := M.hl (O5.out.below hb)
  have Z56 := M.hl hb.size
  have B6 := M.hl (M.sl B5.out hb)
  clear hb O35 O45 O5
  go_wp2_with fail
  refine (toTapeS_any w6 a0 n c ts (HS.out.below B6.out) HL.out).mono ?_
  rintro e w7 ⟨r1, rs, rfl, hp, hO, hb⟩
  have S7 := M.hl (hO.at_slice hp)
  have O37 := M.hl (O36.out.below hb)
  have O47 := M.hl (O46.out.below hb)
  have O57 := M.hl (O56.out.below hb)
  have Z67 := M.hl hb.size
  have B7 := M.hl (M.sl B6.out hb)
  clear hp hO hb O36 O46 O56
  go_wp2_with fail
  refine (eqTapeS_same w7 _ _ n n n n ts (O47.out.at_slice P4.out) S7.out).mono ?_
  rintro e w8 ⟨rfl, hb⟩
  have O38 := M.hl (O37.out.below hb)
  have O48 := M.hl (O47.out.below hb)
  have O58 := M.hl (O57.out.below hb)
  have Z78 := M.hl hb.size
  have B8 := M.hl (M.sl B7.out hb)
  clear hb O37 O47 O57 S7
  have hT4 : M.tend ps4 1 ≤ 40000000 := M.tend_le (A := 1048576) (by have h1 := congrArg List.length P4.out; rw [List.length_map] at h1; have := HL.out; have := HN.out; omega) (by rw [P4.out]; have := HL.out; omega) (by omega) (by omega)
  have hT5 : M.tend qs5 1 ≤ 40000000 := M.tend_le (A := 1048576) (by have := HL5.out; omega) (by rw [Q5.out]; have := (M.syncT_len ts).2; have := HL.out; omega) (by omega) (by omega)
  have CM4 := M.hl (markTapeS_own w8 _ _ _ ps4 1 O48.out (Nat.le_refl _) hT4)
  have CM5 : Hid (∀ W, M.OwnT W w4.heap.size w5.heap.size (.slice a5 L c5) qs5 → Calls Try.prog 31 #[.slice a5 L c5, .int .i64 (1 : Nat)] W fun e w' => e = .returned (.int .i64 ((M.tend qs5 1 : Nat) : Int)) ∧ M.OwnT w' w4.heap.size w5.heap.size (.slice a5 L c5) (M.tmarks qs5 1) ∧ M.Mid w4.heap.size w5.heap.size W w') := fun W hW => markTapeS_own W _ _ _ qs5 1 hW (Nat.le_refl _) hT5
  have CH5 : Hid (∀ W, M.OwnT W w4.heap.size w5.heap.size (.slice a5 L c5) (M.tmarks qs5 1) → Calls Try.prog 40 #[.slice a5 L c5, .int .i64 (1 : Nat)] W fun e w' => e = .returned (.int .i64 ((M.tend qs5 1 : Nat) : Int)) ∧ Below W.heap.size W w') := fun W hW => heldTapeS_own W _ _ _ qs5 1 hW (Nat.le_refl _) hT5
  generalize M.tend ps4 1 = N4 at hT4 CM4
  generalize M.tend qs5 1 = N5 at hT5 CM5 CH5
  have d4 : decide ((N4 : Int) < 0) = false := decide_eq_false (by omega)
  have d5 : decide ((N5 : Int) < 0) = false := decide_eq_false (by omega)
  have dq : ((N5 : Int) != (N5 : Int)) = false := by simp
  rw [show ((1 : Nat) : Int) = 1 from rfl] at CM4 CM5 CH5
  go_wp2_with fail
  refine CM4.out.mono ?_
  rintro e w9 ⟨rfl, -, hm⟩
  have O39 := M.hl (O38.out.mid hm (.inl (Nat.le_refl _)))
  have O59 := M.hl (O58.out.mid hm (.inr (Nat.le_refl _)))
  have Z89 := M.hl hm.size
  have B9 := M.hl (M.midB B8.out hm ZB3.out (Nat.le_trans Z34.out (Nat.le_trans Z45.out (Nat.le_trans Z56.out (Nat.le_trans Z67.out Z78.out)))))
  clear hm O38 O48 O58 CM4
  go_wp2_with fail
  refine (EQ.out w9 O39.out O59.out).mono ?_
  rintro e w10 ⟨rfl, hb⟩
  have O310 := M.hl (O39.out.below hb)
  have O510 := M.hl (O59.out.below hb)
  have Z910 := M.hl hb.size
  have B10 := M.hl (M.sl B9.out hb)
  clear hb O39 O59
  go_wp2_with fail
  refine (CM5.out w10 O510.out).mono ?_
  rintro e w11 ⟨rfl, hO, hm⟩
  have O511 := M.hl hO
  have O311 := M.hl (O310.out.mid hm (.inl Z34.out))
  have B11 := M.hl (M.midB B10.out hm (Nat.le_trans ZB3.out Z34.out) (Nat.le_trans Z45.out (Nat.le_trans Z56.out (Nat.le_trans Z67.out (Nat.le_trans Z78.out (Nat.le_trans Z89.out Z910.out))))))
  clear hO hm O310 O510
  go_wp2_with fail
  refine (CH5.out w11 O511.out).mono ?_
  rintro e w12 ⟨rfl, hb⟩
  have O512 := M.hl (O511.out.below hb)
  have O312 := M.hl (O311.out.below hb)
  have B12 := M.hl (M.sl B11.out hb)
  clear hb O511 O311
  go_wp2_with fail
  refine (toTapeS_any w12 a0 n c ts (HS.out.below B12.out) HL.out).mono ?_
  rintro e w13 ⟨r13, rs13, rfl, hp, hO, hb⟩
  have S13 := M.hl (hO.at_slice hp)
  have O513 := M.hl (O512.out.below hb)
  have O313 := M.hl (O312.out.below hb)
  have B13 := M.hl (M.sl B12.out hb)
  clear hp hO hb O512 O312
  go_wp2_with fail
  refine (iSync_any w13 _ n n ts S13.out HO.out HSM.out HL.out).mono ?_
  rintro e w14 ⟨v14, qs14, rfl, hq, hO, hb⟩
  have hL14 : qs14.length = L := by rw [← List.length_map (f := Prod.fst), hq, ← Q5.out, List.length_map]; exact HL5.out
  obtain ⟨a14, c14, rfl⟩ := hO.lenN hL14
  have S14 := M.hl (hO.at_slice hq)
  have O514 := M.hl (O513.out.below hb)
  have O314 := M.hl (O313.out.below hb)
  have B14 := M.hl (M.sl B13.out hb)
  clear hq hO hb hL14 O513 O313 S13
  go_wp2_with fail
  refine (eqTapeS_same w14 _ _ L c14 L c3 (M.syncT ts) S14.out (O314.out.at_slice Q3.out)).mono ?_
  rintro e w15 ⟨rfl, hb⟩
  have O515 := M.hl (O514.out.below hb)
  have B15 := M.hl (M.sl B14.out hb)
  clear hb O514 O314
  go_wp2_with fail
  refine (CH5.out w15 O515.out).mono ?_
  rintro e w16 ⟨rfl, hb⟩
  have B16 := M.hl (M.sl B15.out hb)
  clear hb
  go_wp2
  go_ret
  exact ⟨rfl, B16.out⟩
end Go.Proofs.Ytmeblchkccmkcaa
