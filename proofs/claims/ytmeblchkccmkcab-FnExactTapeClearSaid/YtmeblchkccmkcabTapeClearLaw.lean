/-
  TapeClear of the program answers as that of the specification, at every row of tapes and every number; its answer owns its memory.
-/
import Derived.Test.YtmeblchkccmkcabSClear
import Derived.Test.YtmeblchkccmkcabTapeOutSW
namespace Go.Proofs.Ytmeblchkccmkcab
open Go.RowKit

theorem M.clear_len (ts : List M.TapeD) (k : Int) : (M.clearO ts k).1.length ≤ ts.length ∧ M.tln (M.clearO ts k).1 ≤ M.tln ts := by
  unfold M.clearO
  split
  · exact ⟨Nat.zero_le _, by simp [M.tln]⟩
  split
  · cases hq : ts[k.toNat]? with
    | none => exact ⟨Nat.zero_le _, by simp [M.tln]⟩
    | some t =>
      simp only
      split
      · exact ⟨Nat.zero_le _, by simp [M.tln]⟩
      · have hsp := M.split_at hq
        have hl := congrArg List.length hsp
        have ht := congrArg M.tln hsp
        simp only [List.length_append, List.length_cons] at hl ⊢
        refine ⟨by omega, ?_⟩
        rw [ht]
        simp only [M.tln, List.map_append, List.map_cons, List.sum_append, List.sum_cons, List.length_nil]
        omega
  · exact ⟨Nat.zero_le _, by simp [M.tln]⟩
theorem M.bkB {W W' : World} {b : Nat} {o : Obj} (h : W.heap[b]? = some o) (hb : Below W.heap.size W W') : W'.heap[b]? = some o := (hb.block b (Array.getElem?_eq_some_iff.1 h).1).trans h
theorem M.bkM {lo hi : Nat} {W W' : World} {b : Nat} {o : Obj} (h : W.heap[b]? = some o) (hm : M.Mid lo hi W W') (ho : b < lo ∨ hi ≤ b) : W'.heap[b]? = some o := (hm.block b (Array.getElem?_eq_some_iff.1 h).1 ho).trans h
theorem M.nilPts (W : World) : M.Pts W none 0 0 [] := ⟨rfl, Nat.le_refl _, Nat.zero_le _, fun h => absurd h (Nat.lt_irrefl _)⟩

set_option maxRecDepth 100000 in
set_option maxHeartbeats 3200000 in
theorem fnExactTapeClear_walk (a0 : Option Addr) (n c : Nat) (ts : List M.TapeD) (k : Int) (w : World) (h : M.Tps w a0 n c ts) (hok : ∀ t ∈ ts, M.tok t) (_ : -9223372036854775808 ≤ k) (_ : k ≤ 9223372036854775807) :
    Calls Try.prog 4 #[.slice a0 n c, .int .i64 k] w fun e w' => e = .returned (.bool true) ∧ Below w.heap.size w w' := by
  have HS := M.hl h
  have HO := M.hl hok
  have HN : Hid (n = ts.length) := h.1
  clear h hok
  go_enter Try.func4, Try.ntmps4
  go_wp2_with fail
  refine (szTapeS_any _ a0 n c ts HS.out HO.out).mono ?_
  rintro e w1 ⟨v, rfl, hv1, hv2, hb⟩
  have HV2 := M.hl hv2
  have B1 := M.hl hb
  clear hv2 hb
  by_cases hneg : v < 0
  · go_wp2
    go_ret
    exact ⟨rfl, B1.out⟩
  have HL : Hid (n + M.tln ts ≤ 1048576) := by have := (HV2.out (by omega)).1; show _ ≤ _; omega
  have HSM : Hid (∀ t ∈ ts, ∀ s ∈ t.ss, s.size ≤ 100000000) := fun t ht s hs => by have := (HV2.out (by omega)).2 t ht s hs; omega
  clear HV2
  obtain ⟨z, hz⟩ : ∃ z, z = (M.clearO ts k).2 := ⟨_, rfl⟩
  obtain ⟨us, hus⟩ : ∃ us, us = (M.clearO ts k).1 := ⟨_, rfl⟩
  have hUL := M.clear_len ts k
  have CSC : Hid (∀ (W : World) (ad : Addr), M.Tps W (some ad) n n ts → Calls Try.prog 15 #[.slice (some ad) n n, .int .i64 k] W fun e w' => ∃ (v : Value) (qs : List (M.TapeD × Value)), e = .returned (.agg #[v, .slice none 0 0, .string ⟨#[]⟩, .int .i64 z]) ∧ qs.map Prod.fst = us ∧ M.OwnT w' W.heap.size w'.heap.size v qs ∧ Below W.heap.size W w') := fun W ad hW => by rw [hz, hus]; exact sClear_any W ad n n ts k hW HO.out HL.out
  have CIC : Hid (∀ (W : World) (a : Option Addr), M.Tps W a n n ts → Calls Try.prog 16 #[.slice a n n, .int .i64 k] W fun e w' => ∃ (v : Value) (qs : List (M.TapeD × Value)), e = .returned (.agg #[v, .slice none 0 0, .string ⟨#[]⟩, .int .i64 z]) ∧ qs.map Prod.fst = us ∧ M.OwnT w' W.heap.size w'.heap.size v qs ∧ Below W.heap.size W w') := fun W a hW => by rw [hz, hus]; exact iClear_any W a n n ts k hW HO.out HSM.out HL.out
  have HUL : Hid (us.length ≤ ts.length ∧ M.tln us ≤ M.tln ts) := by rw [hus]; exact hUL
  clear hz hus hUL
  go_wp2_with fail
  refine (toTapeS_any w1 a0 n c ts (HS.out.below B1.out) HL.out).mono ?_
  rintro e w2 ⟨p1, ps, rfl, hp, hO, hb⟩
  have S2 := M.hl (hO.at_slice hp)
  have B2 := M.hl (M.sl B1.out hb)
  clear hp hO hb B1
  go_wp2_with fail
  refine (CSC.out w2 _ S2.out).mono ?_
  rintro e w3 ⟨v3, qs3, rfl, hq3, hO, hb⟩
  have A3 : Hid (∀ o, Below w3.heap.size w3 (w3.alloc o)) := fun o => (Below.refl _ _).alloc (Nat.le_refl _) _
  have hl3 : qs3.length = us.length := by rw [← hq3, List.length_map]
  obtain ⟨L, hL⟩ : ∃ L, us.length = L := ⟨_, rfl⟩
  rw [hL] at hl3
  have HLL := M.hl hL
  obtain ⟨a3, c3, rfl⟩ := hO.lenN hl3
  have O3 := M.hl (fun o => hO.below (A3.out o))
  have Q3 := M.hl hq3
  have B3 := M.hl (fun o => M.sl (M.sl B2.out hb) (A3.out o))
  have ZB3 : Hid (w.heap.size ≤ w3.heap.size) := (M.sl B2.out hb).size
  clear hq3 hO hb S2 B2 hl3 hL
  go_wp2_with fail
  refine (toTapeS_any _ a0 n c ts (HS.out.below (B3.out _)) HL.out).mono ?_
  rintro e w4 ⟨q1, ps4, rfl, hp, hO, hb⟩
  have Z34 : Hid (w3.heap.size + 1 ≤ w4.heap.size) := by show _ ≤ _; have := hb.size; simpa using this
  have S4 := M.hl (hO.at_slice hp)
  have O4 := M.hl (hO.widen (lo' := w3.heap.size + 1) (by simp) (Nat.le_refl _))
  have P4 := M.hl hp
  have D4 := M.hl (M.bkB (heap_alloc_new w3 (.cells #[.slice a3 L c3, .slice none 0 0, .string ⟨#[]⟩, .int .i64 z] 36)) hb)
  have B4 := M.hl (M.sl (B3.out _) hb)
  have O34 := M.hl ((O3.out _).below hb)
  clear hp hO hb O3 B3
  go_wp2_with fail
  refine (CIC.out w4 _ S4.out).mono ?_
  rintro e w5 ⟨v5, qs5, rfl, hq5, hO, hb⟩
  have A5 : Hid (∀ o, Below w5.heap.size w5 (w5.alloc o)) := fun o => (Below.refl _ _).alloc (Nat.le_refl _) _
  have hl5 : qs5.length = L := by rw [← HLL.out, ← hq5, List.length_map]
  obtain ⟨a5, c5, rfl⟩ := hO.lenN hl5
  have Q5 := M.hl hq5
  have Z45 := M.hl hb.size
  obtain ⟨W5, hW5⟩ : ∃ W5, W5 = w5.alloc (.cells #[.slice a5 L c5, .slice none 0 0, .string ⟨#[]⟩, .int .i64 z] 36) := ⟨_, rfl⟩
  have B5 : Hid (Below w.heap.size w W5) := by rw [hW5]; exact M.sl (M.sl B4.out hb) (A5.out _)
  have O5 : Hid (M.OwnT W5 w4.heap.size w5.heap.size (.slice a5 L c5) qs5) := by rw [hW5]; exact hO.below (A5.out _)
  have O35 : Hid (M.OwnT W5 w2.heap.size w3.heap.size (.slice a3 L c3) qs3) := by rw [hW5]; exact (O34.out.below hb).below (A5.out _)
  have O45 : Hid (M.OwnT W5 (w3.heap.size + 1) w4.heap.size (.slice (some ⟨q1, 0, none⟩) n n) ps4) := by rw [hW5]; exact (O4.out.below hb).below (A5.out _)
  have D5 : Hid (W5.heap[w3.heap.size]? = some (.cells #[.slice a3 L c3, .slice none 0 0, .string ⟨#[]⟩, .int .i64 z] 36 (0, 0))) := by rw [hW5]; exact M.bkB (M.bkB D4.out hb) (A5.out _)
  have G5 : Hid (W5.heap[w5.heap.size]? = some (.cells #[.slice a5 L c5, .slice none 0 0, .string ⟨#[]⟩, .int .i64 z] 36 (0, 0))) := by rw [hW5]; exact heap_alloc_new _ _
  have Z5 : Hid (w5.heap.size ≤ W5.heap.size) := by rw [hW5]; show _ ≤ _; simp
  have HW5 := M.hl hW5
  have D5a := M.hl (fun o => M.bkB (M.bkB D4.out hb) (A5.out o))
  have EQ : Hid (∀ W, M.OwnT W w2.heap.size w3.heap.size (.slice a3 L c3) qs3 → M.OwnT W w4.heap.size w5.heap.size (.slice a5 L c5) qs5 → Calls Try.prog 17 #[.agg #[.slice a5 L c5, .slice none 0 0, .string ⟨#[]⟩, .int .i64 z], .agg #[.slice a3 L c3, .slice none 0 0, .string ⟨#[]⟩, .int .i64 z]] W fun e w' => e = .returned (.bool true) ∧ Below W.heap.size W w') := fun W h3 h5 => eqTapeOut_same W a5 a3 none none L c5 c3 0 0 0 0 0 us [] ⟨#[]⟩ z (h5.at_slice Q5.out) (h3.at_slice Q3.out) (M.nilPts W) (M.nilPts W) rfl
  have HL5 := M.hl hl5
  have HL3 : Hid (qs3.length = L) := by show _ = _; rw [← HLL.out, ← Q3.out, List.length_map]
  clear hq5 hO hb hW5 O34 O4 D4 B4 S4 hl5
  have d0 : ∀ o, (w5.alloc o).cell? ⟨w3.heap.size, 0, none⟩ = some (.slice a3 L c3) := fun o => M.bk_cell (D5a.out o) 0 _ rfl
  have d1 : ∀ o, (w5.alloc o).cell? ⟨w3.heap.size, 1, none⟩ = some (.slice none 0 0) := fun o => M.bk_cell (D5a.out o) 1 _ rfl
  have d2 : ∀ o, (w5.alloc o).cell? ⟨w3.heap.size, 2, none⟩ = some (.string ⟨#[]⟩) := fun o => M.bk_cell (D5a.out o) 2 _ rfl
  have d3 : ∀ o, (w5.alloc o).cell? ⟨w3.heap.size, 3, none⟩ = some (.int .i64 z) := fun o => M.bk_cell (D5a.out o) 3 _ rfl
  go_wp2_with fail
  rw [← HW5.out]
  refine (EQ.out W5 O35.out O5.out).mono ?_
  rintro e w6 ⟨rfl, hb⟩
  have O36 := M.hl (O35.out.below hb)
  have O46 := M.hl (O45.out.below hb)
  have O56 := M.hl (O5.out.below hb)
  have D6 := M.hl (M.bkB D5.out hb)
  have G6 := M.hl (M.bkB G5.out hb)
  have Z56 : Hid (w5.heap.size ≤ w6.heap.size) := Nat.le_trans Z5.out hb.size
  have B6 := M.hl (M.sl B5.out hb)
  clear hb O35 O45 O5 D5 G5 D5a d0 d1 d2 d3
  go_wp2_with fail
  refine (toTapeS_any w6 a0 n c ts (HS.out.below B6.out) HL.out).mono ?_
  rintro e w7 ⟨r1, rs, rfl, hp, hO, hb⟩
  have S7 := M.hl (hO.at_slice hp)
  have O37 := M.hl (O36.out.below hb)
  have O47 := M.hl (O46.out.below hb)
  have O57 := M.hl (O56.out.below hb)
  have D7 := M.hl (M.bkB D6.out hb)
  have G7 := M.hl (M.bkB G6.out hb)
  have Z57 : Hid (w5.heap.size ≤ w7.heap.size) := Nat.le_trans Z56.out hb.size
  have B7 := M.hl (M.sl B6.out hb)
  clear hp hO hb O36 O46 O56 D6 G6
  go_wp2_with fail
  refine (eqTapeS_same w7 _ _ n n n n ts (O47.out.at_slice P4.out) S7.out).mono ?_
  rintro e w8 ⟨rfl, hb⟩
  have O38 := M.hl (O37.out.below hb)
  have O48 := M.hl (O47.out.below hb)
  have O58 := M.hl (O57.out.below hb)
  have D8 := M.hl (M.bkB D7.out hb)
  have G8 := M.hl (M.bkB G7.out hb)
  have Z58 : Hid (w5.heap.size ≤ w8.heap.size) := Nat.le_trans Z57.out hb.size
  have B8 := M.hl (M.sl B7.out hb)
  clear hb O37 O47 O57 S7 D7 G7
  have hT4 : M.tend ps4 1 ≤ 40000000 := M.tend_le (A := 1048576) (by have h1 := congrArg List.length P4.out; rw [List.length_map] at h1; have := HL.out; have := HN.out; omega) (by rw [P4.out]; have := HL.out; omega) (by omega) (by omega)
  have hT5 : M.tend qs5 1 ≤ 20000000 := by
    rw [M.tend_eq, Q5.out, HL5.out]
    have h1 := HUL.out
    have := HLL.out
    have := HL.out
    have := HN.out
    omega
  have CM4 := M.hl (markTapeS_own w8 _ _ _ ps4 1 O48.out (Nat.le_refl _) hT4)
  have CM5 : Hid (∀ W, M.OwnT W w4.heap.size w5.heap.size (.slice a5 L c5) qs5 → w5.heap.size ≤ W.heap.size → Calls Try.prog 18 #[.agg #[.slice a5 L c5, .slice none 0 0, .string ⟨#[]⟩, .int .i64 z], .int .i64 1] W fun e w' => e = .returned (.int .i64 ((M.tend qs5 1 : Nat) : Int)) ∧ M.OwnT w' w4.heap.size w5.heap.size (.slice a5 L c5) (M.tmarks qs5 1) ∧ M.Mid w4.heap.size w5.heap.size W w') := fun W hW hz =>
    (markTapeOut_own W _ _ _ (.slice none 0 0) qs5 [] ⟨#[]⟩ z hW (M.OwnPt.nil _ _) (fun g h => by cases h) hz hT5 (by simp)).mono (by rintro e w' ⟨he, ho, -, hm⟩; exact ⟨he, ho, hm⟩)
  have CH5 : Hid (∀ W, M.OwnT W w4.heap.size w5.heap.size (.slice a5 L c5) (M.tmarks qs5 1) → Calls Try.prog 19 #[.agg #[.slice a5 L c5, .slice none 0 0, .string ⟨#[]⟩, .int .i64 z], .int .i64 1] W fun e w' => e = .returned (.int .i64 ((M.tend qs5 1 : Nat) : Int)) ∧ Below W.heap.size W w') := fun W hW => heldTapeOut_own W _ _ _ (.slice none 0 0) qs5 0 ⟨#[]⟩ z hW (M.OwnPt.nil _ _) hT5 (by omega)
  generalize M.tend ps4 1 = N4 at hT4 CM4
  generalize M.tend qs5 1 = N5 at hT5 CM5 CH5
  have dd4 : decide ((N4 : Int) < 0) = false := decide_eq_false (by omega)
  have dd5 : decide ((N5 : Int) < 0) = false := decide_eq_false (by omega)
  have dq : ((N5 : Int) != (N5 : Int)) = false := by simp
  rw [show ((1 : Nat) : Int) = 1 from rfl] at CM4
  go_wp2_with fail
  refine CM4.out.mono ?_
  rintro e w9 ⟨rfl, -, hm⟩
  have O39 := M.hl (O38.out.mid hm (.inl (by omega)))
  have O59 := M.hl (O58.out.mid hm (.inr (Nat.le_refl _)))
  have D9 := M.hl (M.bkM D8.out hm (.inl (by omega)))
  have G9 := M.hl (M.bkM G8.out hm (.inr Z45.out))
  have Z59 : Hid (w5.heap.size ≤ w9.heap.size) := Nat.le_trans Z58.out hm.size
  have B9 := M.hl (M.midB B8.out hm (by have := ZB3.out; omega) (by have := Z34.out; have := Z45.out; have := Z58.out; omega))
  clear hm O38 O48 O58 D8 G8 CM4
  have d0 := M.bk_cell D9.out 0 (.slice a3 L c3) rfl
  have d1 := M.bk_cell D9.out 1 (.slice none 0 0) rfl
  have d2 := M.bk_cell D9.out 2 (.string ⟨#[]⟩) rfl
  have d3 := M.bk_cell D9.out 3 (.int .i64 z) rfl
  have g0 := M.bk_cell G9.out 0 (.slice a5 L c5) rfl
  have g1 := M.bk_cell G9.out 1 (.slice none 0 0) rfl
  have g2 := M.bk_cell G9.out 2 (.string ⟨#[]⟩) rfl
  have g3 := M.bk_cell G9.out 3 (.int .i64 z) rfl
  go_wp2_with fail
  refine (EQ.out w9 O39.out O59.out).mono ?_
  rintro e w10 ⟨rfl, hb⟩
  have O310 := M.hl (O39.out.below hb)
  have O510 := M.hl (O59.out.below hb)
  have D10 := M.hl (M.bkB D9.out hb)
  have G10 := M.hl (M.bkB G9.out hb)
  have Z510 : Hid (w5.heap.size ≤ w10.heap.size) := Nat.le_trans Z59.out hb.size
  have B10 := M.hl (M.sl B9.out hb)
  clear hb O39 O59 D9 G9 d0 d1 d2 d3 g0 g1 g2 g3
  have g0 := M.bk_cell G10.out 0 (.slice a5 L c5) rfl
  have g1 := M.bk_cell G10.out 1 (.slice none 0 0) rfl
  have g2 := M.bk_cell G10.out 2 (.string ⟨#[]⟩) rfl
  have g3 := M.bk_cell G10.out 3 (.int .i64 z) rfl
  go_wp2_with fail
  refine (CM5.out w10 O510.out Z510.out).mono ?_
  rintro e w11 ⟨rfl, hO, hm⟩
  have O511 := M.hl hO
  have O311 := M.hl (O310.out.mid hm (.inl (by have := Z34.out; omega)))
  have D11 := M.hl (M.bkM D10.out hm (.inl (by have := Z34.out; omega)))
  have G11 := M.hl (M.bkM G10.out hm (.inr (Nat.le_refl _)))
  have B11 := M.hl (M.midB B10.out hm (by have := ZB3.out; have := Z34.out; omega) (by have := Z45.out; have := Z510.out; omega))
  clear hO hm O310 O510 D10 G10 g0 g1 g2 g3
  have g0 := M.bk_cell G11.out 0 (.slice a5 L c5) rfl
  have g1 := M.bk_cell G11.out 1 (.slice none 0 0) rfl
  have g2 := M.bk_cell G11.out 2 (.string ⟨#[]⟩) rfl
  have g3 := M.bk_cell G11.out 3 (.int .i64 z) rfl
  go_wp2_with fail
  refine (CH5.out w11 O511.out).mono ?_
  rintro e w12 ⟨rfl, hb⟩
  have O512 := M.hl (O511.out.below hb)
  have O312 := M.hl (O311.out.below hb)
  have D12 := M.hl (M.bkB D11.out hb)
  have G12 := M.hl (M.bkB G11.out hb)
  have B12 := M.hl (M.sl B11.out hb)
  clear hb O511 O311 D11 G11 g0 g1 g2 g3
  go_wp2_with fail
  refine (toTapeS_any w12 a0 n c ts (HS.out.below B12.out) HL.out).mono ?_
  rintro e w13 ⟨r13, rs13, rfl, hp, hO, hb⟩
  have S13 := M.hl (hO.at_slice hp)
  have O513 := M.hl (O512.out.below hb)
  have O313 := M.hl (O312.out.below hb)
  have D13 := M.hl (M.bkB D12.out hb)
  have G13 := M.hl (M.bkB G12.out hb)
  have B13 := M.hl (M.sl B12.out hb)
  clear hp hO hb O512 O312 D12 G12
  go_wp2_with fail
  refine (CIC.out w13 _ S13.out).mono ?_
  rintro e w14 ⟨v14, qs14, rfl, hq, hO, hb⟩
  have hL14 : qs14.length = L := by rw [← HLL.out, ← hq, List.length_map]
  obtain ⟨a14, c14, rfl⟩ := hO.lenN hL14
  have A14 : Hid (∀ o, Below w14.heap.size w14 (w14.alloc o)) := fun o => (Below.refl _ _).alloc (Nat.le_refl _) _
  have S14 := M.hl (fun o => (hO.at_slice hq).below (A14.out o))
  have O514 := M.hl (fun o => (O513.out.below hb).below (A14.out o))
  have O314 := M.hl (fun o => (O313.out.below hb).below (A14.out o))
  have D14 := M.hl (fun o => M.bkB (M.bkB D13.out hb) (A14.out o))
  have G14 := M.hl (fun o => M.bkB (M.bkB G13.out hb) (A14.out o))
  have B14 := M.hl (fun o => M.sl (M.sl B13.out hb) (A14.out o))
  clear hq hO hb hL14 O513 O313 S13 D13 G13
  have d0 : ∀ o, (w14.alloc o).cell? ⟨w3.heap.size, 0, none⟩ = some (.slice a3 L c3) := fun o => M.bk_cell (D14.out o) 0 _ rfl
  have d1 : ∀ o, (w14.alloc o).cell? ⟨w3.heap.size, 1, none⟩ = some (.slice none 0 0) := fun o => M.bk_cell (D14.out o) 1 _ rfl
  have d2 : ∀ o, (w14.alloc o).cell? ⟨w3.heap.size, 2, none⟩ = some (.string ⟨#[]⟩) := fun o => M.bk_cell (D14.out o) 2 _ rfl
  have d3 : ∀ o, (w14.alloc o).cell? ⟨w3.heap.size, 3, none⟩ = some (.int .i64 z) := fun o => M.bk_cell (D14.out o) 3 _ rfl
  go_wp2_with fail
  refine (eqTapeOut_same _ a14 a3 none none L c14 c3 0 0 0 0 0 us [] ⟨#[]⟩ z (S14.out _) ((O314.out _).at_slice Q3.out) (M.nilPts _) (M.nilPts _) rfl).mono ?_
  rintro e w15 ⟨rfl, hb⟩
  have O515 := M.hl ((O514.out _).below hb)
  have G15 := M.hl (M.bkB (G14.out _) hb)
  have B15 := M.hl (M.sl (B14.out _) hb)
  clear hb O514 O314 D14 G14 d0 d1 d2 d3
  have g0 := M.bk_cell G15.out 0 (.slice a5 L c5) rfl
  have g1 := M.bk_cell G15.out 1 (.slice none 0 0) rfl
  have g2 := M.bk_cell G15.out 2 (.string ⟨#[]⟩) rfl
  have g3 := M.bk_cell G15.out 3 (.int .i64 z) rfl
  go_wp2_with fail
  refine (CH5.out w15 O515.out).mono ?_
  rintro e w16 ⟨rfl, hb⟩
  have B16 := M.hl (M.sl B15.out hb)
  clear hb g0 g1 g2 g3
  go_wp2
  go_ret
  exact ⟨rfl, B16.out⟩
end Go.Proofs.Ytmeblchkccmkcab
