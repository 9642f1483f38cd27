/-
  TapesRead of the program answers as that of the specification, at every row of tapes, every row of parts and every number; its answer owns its memory.
-/
import Derived.Test.YtmafkcnnhkkleaaSTRead
import Derived.Test.YtmafkcnnhkkleaaTapeOutSW
namespace Go.Proofs.Ytmafkcnnhkkleaa
open Go.RowKit

theorem M.mid0 {W w' : World} (h : M.Mid 0 0 W w') : Below W.heap.size W w' := ⟨h.os, h.tape, h.output, h.size, fun k hk => h.block k hk (.inr (Nat.zero_le _))⟩
theorem M.nilTp (W : World) : M.Tps W none 0 0 [] := ⟨rfl, Nat.le_refl _, Nat.zero_le _, fun h => absurd h (Nat.lt_irrefl _)⟩
theorem M.nilPt (W : World) : M.Pts W none 0 0 [] := ⟨rfl, Nat.le_refl _, Nat.zero_le _, fun h => absurd h (Nat.lt_irrefl _)⟩
theorem M.bk4 {W : World} {H : Nat} {v0 v1 v2 v3 : Value} {T : TypeId} (h : W.heap[H]? = some (.cells #[v0, v1, v2, v3] T (0, 0))) : W.cell? ⟨H, 0, none⟩ = some v0 ∧ W.cell? ⟨H, 1, none⟩ = some v1 ∧ W.cell? ⟨H, 2, none⟩ = some v2 ∧ W.cell? ⟨H, 3, none⟩ = some v3 :=
  ⟨M.bk_cell h 0 _ rfl, M.bk_cell h 1 _ rfl, M.bk_cell h 2 _ rfl, M.bk_cell h 3 _ rfl⟩
theorem M.keepM {lo hi : Nat} {W W' : World} {b : Nat} {o : Obj} (h : W.heap[b]? = some o) (hm : M.Mid lo hi W W') (ho : b < lo ∨ hi ≤ b) : W'.heap[b]? = some o := (hm.block b (Array.getElem?_eq_some_iff.1 h).1 ho).trans h
theorem M.ownPt_mid {lo hi base : Nat} {w w' : World} {v : Value} {ps : List M.PartD} (h : M.OwnPt w base v ps) (hm : M.Mid lo hi w w') (ho : ∀ g, v.ownBlock = some g → g < lo ∨ hi ≤ g) : M.OwnPt w' base v ps := by
  obtain ⟨hl, h0 | ⟨g, cap, cur, hv, hg, hh, hr⟩⟩ := h
  · exact ⟨hl, .inl h0⟩
  · exact ⟨hl, .inr ⟨g, cap, cur, hv, hg, by rw [hm.block g (Array.getElem?_eq_some_iff.1 hh).1 (ho g (by rw [hv]; rfl))]; exact hh, hr⟩⟩

set_option maxRecDepth 100000 in
set_option maxHeartbeats 3200000 in
theorem fnExactTapesRead_walk (a0 : Option Addr) (n c : Nat) (ts : List M.TapeD) (a1 : Option Addr) (m c1 : Nat) (qs : List M.PartD) (many : Int) (w : World) (h : M.Tps w a0 n c ts) (hok : ∀ t ∈ ts, M.tok t) (h' : M.Pts w a1 m c1 qs) (hpk : ∀ p ∈ qs, M.pok p) (_ : -9223372036854775808 ≤ many) (hmy : many ≤ 9223372036854775807) :
    Calls Try.prog 7 #[.slice a0 n c, .slice a1 m c1, .int .i64 many] w fun e w' => e = .returned (.bool true) ∧ Below w.heap.size w w' := by
  have HS := M.hl h
  have HO := M.hl hok
  have HG := M.hl h'
  have HN : Hid (n = ts.length) := h.1
  have CT : Hid (∀ (W : World) (a b : Option Addr), M.Tps W a n n ts → M.Pts W b m m qs → Calls Try.prog 19 #[.slice a n n, .slice b m m, .int .i64 many] W fun e w' => e = .returned (M.treadV ts qs many) ∧ Below W.heap.size W w') := fun W a b ha hb => sTRead_any W a n n ts b m m qs many ha hok hb
  have CI : Hid (∀ (W : World) (a b : Option Addr), M.Tps W a n n ts → M.Pts W b m m qs → Calls Try.prog 13 #[.slice a n n, .slice b m m, .int .i64 many] W fun e w' => e = .returned (M.treadV ts qs many) ∧ Below W.heap.size W w') := fun W a b ha hb => iTRead_any W a n n ts b m m qs many ha hok hb hpk hmy
  have hml := h'.max
  unfold M.treadV at CT CI
  generalize (M.tread ts qs many).1 = tt at CT CI
  generalize (M.tread ts qs many).2 = cc at CT CI
  have CE : Hid (∀ W, Calls Try.prog 29 #[.agg #[.slice none 0 0, .slice none 0 0, .string tt, .int .i64 cc], .agg #[.slice none 0 0, .slice none 0 0, .string tt, .int .i64 cc]] W fun r w' => r = .returned (.bool true) ∧ Below W.heap.size W w') := fun W => eqTapeOut_same W none none none none 0 0 0 0 0 0 0 0 [] [] tt cc (M.nilTp W) (M.nilTp W) (M.nilPt W) (M.nilPt W) rfl
  have CM : Hid (∀ W, Calls Try.prog 33 #[.agg #[.slice none 0 0, .slice none 0 0, .string tt, .int .i64 cc], .int .i64 1] W fun r w' => r = .returned (.int .i64 1) ∧ Below W.heap.size W w') := fun W => (markTapeOut_own W 0 0 (.slice none 0 0) (.slice none 0 0) [] [] tt cc (M.OwnT.nil W 0 0) (M.OwnPt.nil W 0) (by intro g hg; cases hg) (Nat.zero_le _) (by decide) (by decide)).mono (by rintro r w' ⟨rfl, -, -, hm⟩; exact ⟨rfl, M.mid0 hm⟩)
  have CH : Hid (∀ W, Calls Try.prog 34 #[.agg #[.slice none 0 0, .slice none 0 0, .string tt, .int .i64 cc], .int .i64 1] W fun r w' => r = .returned (.int .i64 1) ∧ Below W.heap.size W w') := fun W => heldTapeOut_own W 0 0 (.slice none 0 0) (.slice none 0 0) [] 0 tt cc (M.OwnT.nil W 0 0) (M.OwnPt.nil W 0) (by decide) (by decide)
  clear h hok h' hpk hmy
  go_enter Try.func7, Try.ntmps7
  go_wp2_with fail
  refine (szTapeS_any _ a0 n c ts HS.out HO.out).mono ?_
  rintro e w1 ⟨v, rfl, hv1, hv2, hb⟩
  have HV2 := M.hl hv2
  have B1 := M.hl hb
  clear hv2 hb
  by_cases hneg : v < 0
  · go_wp2
    go_ret
    exact ⟨rfl, B1.out⟩
  have HL : Hid (n + M.tln ts ≤ 1048576) := by have := (HV2.out (by omega)).1; show _ ≤ _; omega
  clear HV2
  go_wp2_with fail
  refine (szPartS_any w1 a1 m c1 v hml (by omega) (by omega)).mono ?_
  rintro e w1' ⟨v2, rfl, hp1, hp2, rfl⟩
  have HP1 := M.hl hp1
  clear hp1
  by_cases hneg2 : v2 < 0
  · go_wp2
    go_ret
    exact ⟨rfl, B1.out⟩
  have HM : Hid (m ≤ 1048576) := by have := HP1.out (by omega); show _ ≤ _; omega
  clear HP1 hml
  go_wp2_with fail
  refine (toTapeS_any w1 a0 n c ts (HS.out.below B1.out) HL.out).mono ?_
  rintro e w2 ⟨p1, ps, rfl, hp, hO, hb⟩
  have S2 := M.hl (hO.at_slice hp)
  have B2 := M.hl (M.sl B1.out hb)
  clear hp hO hb B1
  go_wp2_with fail
  refine (toPartS_any w2 a1 m c1 qs (HG.out.below B2.out) HM.out).mono ?_
  rintro e w2' ⟨u1, rfl, hO, -, -, hb⟩
  have S2 := M.hl (S2.out.below hb)
  have T2 := M.hl hO.at_slice
  have B2 := M.hl (M.sl B2.out hb)
  clear hO hb
  go_wp2_with fail
  refine (CT.out w2' _ _ S2.out T2.out).mono ?_
  rintro e w3 ⟨rfl, hb⟩
  have A3 : Hid (∀ o, Below w3.heap.size w3 (w3.alloc o)) := fun o => (Below.refl _ _).alloc (Nat.le_refl _) _
  have B3 := M.hl (fun o => M.sl (M.sl B2.out hb) (A3.out o))
  have ZB3 : Hid (w.heap.size ≤ w3.heap.size) := (M.sl B2.out hb).size
  clear hb S2 T2 B2
  go_wp2_with fail
  refine (toTapeS_any _ a0 n c ts (HS.out.below (B3.out _)) HL.out).mono ?_
  rintro e w4 ⟨q1, ps4, rfl, hp, hO, hb⟩
  have S4 := M.hl (hO.at_slice hp)
  have O4 := M.hl (hO.widen (lo' := w3.heap.size + 1) (by simp) (Nat.le_refl _))
  have P4 := M.hl hp
  have Z34 : Hid (w3.heap.size + 1 ≤ w4.heap.size) := by show _ ≤ _; have := hb.size; simpa using this
  have D4 := M.hl (M.keepO (heap_alloc_new w3 (.cells #[.slice none 0 0, .slice none 0 0, .string tt, .int .i64 cc] 29)) hb)
  have B4 := M.hl (M.sl (B3.out _) hb)
  clear hp hO hb B3
  go_wp2_with fail
  refine (toPartS_any w4 a1 m c1 qs (HG.out.below B4.out) HM.out).mono ?_
  rintro e w4' ⟨u4, rfl, hO, hu1, hu2, hb⟩
  have S4 := M.hl (S4.out.below hb)
  have O4 := M.hl (O4.out.below hb)
  have D4 := M.hl (M.keepO D4.out hb)
  have U4 := M.hl hO
  have T4 := M.hl hO.at_slice
  have HU4 : Hid (w4.heap.size ≤ u4 ∧ u4 < w4'.heap.size) := ⟨hu1, hu2⟩
  have Z44 := M.hl hb.size
  have B4 := M.hl (M.sl B4.out hb)
  clear hO hb hu1 hu2
  go_wp2_with fail
  refine (CI.out w4' _ _ S4.out T4.out).mono ?_
  rintro e w5 ⟨rfl, hb⟩
  have A5 : Hid (∀ o, Below w5.heap.size w5 (w5.alloc o)) := fun o => (Below.refl _ _).alloc (Nat.le_refl _) _
  obtain ⟨W5, hW5⟩ : ∃ W5, W5 = w5.alloc (.cells #[.slice none 0 0, .slice none 0 0, .string tt, .int .i64 cc] 29) := ⟨_, rfl⟩
  have hb5 : Below w4'.heap.size w4' W5 := by rw [hW5]; exact M.sl hb (A5.out _)
  have B5 := M.hl (M.sl B4.out hb5)
  have O5 := M.hl (O4.out.below hb5)
  have U5 := M.hl (U4.out.below hb5)
  have D5 := M.hl (M.keepO D4.out hb5)
  have G5 : Hid (W5.heap[w5.heap.size]? = some (.cells #[.slice none 0 0, .slice none 0 0, .string tt, .int .i64 cc] 29 (0, 0))) := by rw [hW5]; exact heap_alloc_new _ _
  have Z5 : Hid (w4'.heap.size ≤ w5.heap.size ∧ w5.heap.size ≤ W5.heap.size) := ⟨hb.size, by rw [hW5]; simp⟩
  have HW5 := M.hl hW5
  have DA : Hid (∀ o, (w5.alloc o).heap[w3.heap.size]? = some (.cells #[.slice none 0 0, .slice none 0 0, .string tt, .int .i64 cc] 29 (0, 0))) := fun o => M.keepO D4.out (M.sl hb (A5.out o))
  clear hb hb5 hW5 O4 U4 D4 B4 S4 T4
  have y0 : ∀ o, (w5.alloc o).cell? ⟨w3.heap.size, 0, none⟩ = some (.slice none 0 0) := fun o => M.bk_cell (DA.out o) 0 _ rfl
  have y1 : ∀ o, (w5.alloc o).cell? ⟨w3.heap.size, 1, none⟩ = some (.slice none 0 0) := fun o => M.bk_cell (DA.out o) 1 _ rfl
  have y2 : ∀ o, (w5.alloc o).cell? ⟨w3.heap.size, 2, none⟩ = some (.string tt) := fun o => M.bk_cell (DA.out o) 2 _ rfl
  have y3 : ∀ o, (w5.alloc o).cell? ⟨w3.heap.size, 3, none⟩ = some (.int .i64 cc) := fun o => M.bk_cell (DA.out o) 3 _ rfl
  go_wp2_with fail
  rw [← HW5.out]
  refine (CE.out W5).mono ?_
  rintro e w6 ⟨rfl, hb⟩
  have O6 := M.hl (O5.out.below hb)
  have U6 := M.hl (U5.out.below hb)
  have D6 := M.hl (M.keepO D5.out hb)
  have G6 := M.hl (M.keepO G5.out hb)
  have B6 := M.hl (M.sl B5.out hb)
  have Z6 : Hid (w5.heap.size ≤ w6.heap.size) := Nat.le_trans Z5.out.2 hb.size
  clear hb y0 y1 y2 y3 DA O5 U5 D5 G5
  go_wp2_with fail
  refine (toTapeS_any w6 a0 n c ts (HS.out.below B6.out) HL.out).mono ?_
  rintro e w7 ⟨r1, rs, rfl, hp, hO, hb⟩
  have S7 := M.hl (hO.at_slice hp)
  have O7 := M.hl (O6.out.below hb)
  have U7 := M.hl (U6.out.below hb)
  have D7 := M.hl (M.keepO D6.out hb)
  have G7 := M.hl (M.keepO G6.out hb)
  have B7 := M.hl (M.sl B6.out hb)
  have Z7 := M.hl (Nat.le_trans Z6.out hb.size)
  clear hp hO hb O6 U6 D6 G6
  go_wp2_with fail
  refine (eqTapeS_same w7 _ _ n n n n ts (O7.out.at_slice P4.out) S7.out).mono ?_
  rintro e w8 ⟨rfl, hb⟩
  have O8 := M.hl (O7.out.below hb)
  have U8 := M.hl (U7.out.below hb)
  have D8 := M.hl (M.keepO D7.out hb)
  have G8 := M.hl (M.keepO G7.out hb)
  have B8 := M.hl (M.sl B7.out hb)
  have Z8 := M.hl (Nat.le_trans Z7.out hb.size)
  clear hb O7 U7 D7 G7 S7
  go_wp2_with fail
  refine (toPartS_any w8 a1 m c1 qs (HG.out.below B8.out) HM.out).mono ?_
  rintro e w9 ⟨u9, rfl, hO, -, -, hb⟩
  have T9 := M.hl hO.at_slice
  have O9 := M.hl (O8.out.below hb)
  have U9 := M.hl (U8.out.below hb)
  have D9 := M.hl (M.keepO D8.out hb)
  have G9 := M.hl (M.keepO G8.out hb)
  have B9 := M.hl (M.sl B8.out hb)
  have Z9 := M.hl (Nat.le_trans Z8.out hb.size)
  clear hO hb O8 U8 D8 G8
  go_wp2_with fail
  refine (eqPartS_same w9 _ _ m m m m qs U9.out.at_slice T9.out).mono ?_
  rintro e w10 ⟨rfl, hb⟩
  have O10 := M.hl (O9.out.below hb)
  have U10 := M.hl (U9.out.below hb)
  have D10 := M.hl (M.keepO D9.out hb)
  have G10 := M.hl (M.keepO G9.out hb)
  have B10 := M.hl (M.sl B9.out hb)
  have Z10 := M.hl (Nat.le_trans Z9.out hb.size)
  clear hb O9 U9 D9 G9 T9
  have hT4 : M.tend ps4 1 ≤ 20000000 := by
    have h1 := congrArg List.length P4.out
    rw [List.length_map] at h1
    rw [M.tend_eq, P4.out]
    have := HL.out
    have := HN.out
    omega
  have hk1 : 1 ≤ M.tend ps4 1 := by rw [M.tend_eq]; omega
  have CM4 := M.hl (markTapeS_own w10 _ _ _ ps4 1 O10.out (Nat.le_refl _) (by omega))
  have CP4 : Hid (∀ W, M.OwnPt W w4.heap.size (.slice (some ⟨u4, 0, none⟩) m m) qs → Calls Try.prog 38 #[.slice (some ⟨u4, 0, none⟩) m m, .int .i64 ((M.tend ps4 1 : Nat) : Int)] W fun e w' => ∃ N : Nat, e = .returned (.int .i64 (N : Int)) ∧ W.grownBy w' (some u4)) := fun W hW => (markPartS_own W _ _ qs (M.tend ps4 1) hW (by have h1 := hW.at_slice.1; have := HM.out; omega) hk1 (by omega)).mono (by rintro e w' ⟨rfl, -, hg⟩; exact ⟨_, rfl, hg⟩)
  generalize M.tend ps4 1 = N4 at hT4 CM4 CP4 hk1
  rw [show ((1 : Nat) : Int) = 1 from rfl] at CM4
  go_wp2_with fail
  refine CM4.out.mono ?_
  rintro e w11 ⟨rfl, -, hm⟩
  have U11 := M.hl (M.ownPt_mid U10.out hm (fun g hg => by obtain rfl := Option.some.inj hg; exact .inr HU4.out.1))
  have D11 := M.hl (M.keepM D10.out hm (.inl (Nat.lt_succ_self _)))
  have G11 := M.hl (M.keepM G10.out hm (.inr (Nat.le_trans Z44.out Z5.out.1)))
  have B11 := M.hl (M.midB B10.out hm (Nat.le_trans ZB3.out (Nat.le_succ _)) (Nat.le_trans Z34.out (Nat.le_trans Z44.out (Nat.le_trans Z5.out.1 Z10.out))))
  have Z11 := M.hl (Nat.le_trans Z10.out hm.size)
  clear hm O10 U10 D10 G10 CM4
  go_wp2_with fail
  refine (CP4.out w11 U11.out).mono ?_
  rintro e w12 ⟨N5, rfl, hg⟩
  have hm : M.Mid u4 (u4 + 1) w11 w12 := M.Mid.of_grown hg (fun k e => by cases e; omega)
  have D12 := M.hl (M.keepM D11.out hm (.inl (by have := HU4.out.1; have := Z34.out; omega)))
  have G12 := M.hl (M.keepM G11.out hm (.inr (Nat.le_trans HU4.out.2 Z5.out.1)))
  have B12 := M.hl (M.midB B11.out hm (by have := HU4.out.1; have := Z34.out; have := ZB3.out; omega) (by have := HU4.out.2; have := Z5.out.1; have := Z11.out; omega))
  have d4 : decide ((N5 : Int) < 0) = false := decide_eq_false (by omega)
  clear hm hg U11 D11 G11 CP4
  obtain ⟨y0, y1, y2, y3⟩ := M.bk4 D12.out
  obtain ⟨z0, z1, z2, z3⟩ := M.bk4 G12.out
  go_wp2_with fail
  refine (CE.out w12).mono ?_
  rintro e w13 ⟨rfl, hb⟩
  have D13 := M.hl (M.keepO D12.out hb)
  have G13 := M.hl (M.keepO G12.out hb)
  have B13 := M.hl (M.sl B12.out hb)
  clear hb y0 y1 y2 y3 z0 z1 z2 z3
  obtain ⟨z0, z1, z2, z3⟩ := M.bk4 G13.out
  go_wp2_with fail
  refine (CM.out w13).mono ?_
  rintro e w14 ⟨rfl, hb⟩
  have D14 := M.hl (M.keepO D13.out hb)
  have G14 := M.hl (M.keepO G13.out hb)
  have B14 := M.hl (M.sl B13.out hb)
  clear hb z0 z1 z2 z3
  obtain ⟨z0, z1, z2, z3⟩ := M.bk4 G14.out
  go_wp2_with fail
  refine (CH.out w14).mono ?_
  rintro e w15 ⟨rfl, hb⟩
  have D15 := M.hl (M.keepO D14.out hb)
  have G15 := M.hl (M.keepO G14.out hb)
  have B15 := M.hl (M.sl B14.out hb)
  clear hb z0 z1 z2 z3
  go_wp2_with fail
  refine (toTapeS_any w15 a0 n c ts (HS.out.below B15.out) HL.out).mono ?_
  rintro e w16 ⟨r16, rs16, rfl, hp, hO, hb⟩
  have S16 := M.hl (hO.at_slice hp)
  have D16 := M.hl (M.keepO D15.out hb)
  have G16 := M.hl (M.keepO G15.out hb)
  have B16 := M.hl (M.sl B15.out hb)
  clear hp hO hb
  go_wp2_with fail
  refine (toPartS_any w16 a1 m c1 qs (HG.out.below B16.out) HM.out).mono ?_
  rintro e w17 ⟨u17, rfl, hO, -, -, hb⟩
  have S17 := M.hl (S16.out.below hb)
  have T17 := M.hl hO.at_slice
  have D17 := M.hl (M.keepO D16.out hb)
  have G17 := M.hl (M.keepO G16.out hb)
  have B17 := M.hl (M.sl B16.out hb)
  clear hO hb
  go_wp2_with fail
  refine (CI.out w17 _ _ S17.out T17.out).mono ?_
  rintro e w18 ⟨rfl, hb⟩
  have A18 : Hid (∀ o, Below w18.heap.size w18 (w18.alloc o)) := fun o => (Below.refl _ _).alloc (Nat.le_refl _) _
  have D18 := M.hl (fun o => M.keepO D17.out (M.sl hb (A18.out o)))
  have G18 := M.hl (fun o => M.keepO G17.out (M.sl hb (A18.out o)))
  have B18 := M.hl (fun o => M.sl B17.out (M.sl hb (A18.out o)))
  clear hb
  have y0 : ∀ o, (w18.alloc o).cell? ⟨w3.heap.size, 0, none⟩ = some (.slice none 0 0) := fun o => M.bk_cell (D18.out o) 0 _ rfl
  have y1 : ∀ o, (w18.alloc o).cell? ⟨w3.heap.size, 1, none⟩ = some (.slice none 0 0) := fun o => M.bk_cell (D18.out o) 1 _ rfl
  have y2 : ∀ o, (w18.alloc o).cell? ⟨w3.heap.size, 2, none⟩ = some (.string tt) := fun o => M.bk_cell (D18.out o) 2 _ rfl
  have y3 : ∀ o, (w18.alloc o).cell? ⟨w3.heap.size, 3, none⟩ = some (.int .i64 cc) := fun o => M.bk_cell (D18.out o) 3 _ rfl
  go_wp2_with fail
  refine (CE.out _).mono ?_
  rintro e w19 ⟨rfl, hb⟩
  have G19 := M.hl (M.keepO (G18.out _) hb)
  have B19 := M.hl (M.sl (B18.out _) hb)
  clear hb y0 y1 y2 y3
  obtain ⟨z0, z1, z2, z3⟩ := M.bk4 G19.out
  go_wp2_with fail
  refine (CH.out w19).mono ?_
  rintro e w20 ⟨rfl, hb⟩
  have B20 := M.hl (M.sl B19.out hb)
  clear hb z0 z1 z2 z3
  go_wp2
  go_ret
  exact ⟨rfl, B20.out⟩
end Go.Proofs.Ytmafkcnnhkkleaa
