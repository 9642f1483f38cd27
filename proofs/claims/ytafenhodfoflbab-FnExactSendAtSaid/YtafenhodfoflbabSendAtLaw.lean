/-
  SendAt of the program answers as that of the specification, at every sender and time; its answer owns its memory.
-/
import Derived.Test.YtafenhodfoflbabSendSW
import Derived.Test.YtafenhodfoflbabISendAt
import Derived.Test.YtafenhodfoflbabSSendAt
import Derived.Test.YtafenhodfoflbabLinkOutSW
import Derived.Deep.RegionWith
namespace Go.Proofs.Ytafenhodfoflbab
open Go.RowKit

set_option maxRecDepth 100000 in
set_option maxHeartbeats 12800000 in
theorem fnExactSendAt_walk (a0 : Option Addr) (n c : Nat) (ss : List ByteArray) (x d t now : Int) (w : World) (h : M.Strs w a0 n c ss) (hok : ∀ s ∈ ss, s.size ≤ maxLen) (_ : -9223372036854775808 ≤ x ∧ x ≤ 9223372036854775807) (_ : -9223372036854775808 ≤ d ∧ d ≤ 9223372036854775807) (_ : -9223372036854775808 ≤ t ∧ t ≤ 9223372036854775807) (_ : -9223372036854775808 ≤ now) (_ : now ≤ 9223372036854775807) :
    Calls Try.prog 4 #[.agg #[.slice a0 n c, .int .i64 x, .int .i64 d, .int .i64 t], .int .i64 now] w fun e w' => e = .returned (.bool true) ∧ Below w.heap.size w w' := by
  have HS := M.hl h
  have HO := M.hl hok
  have HN : Hid (n = ss.length) := h.1
  have BO : Hid (∀ o, Below w.heap.size w (w.alloc o)) := fun o => (Below.refl _ _).alloc (Nat.le_refl _) _
  clear h hok
  go_enter Try.func4, Try.ntmps4
  go_wp2_with fail
  refine (szSend_any _ a0 n c ss x d t (HS.out.below (BO.out _)) HO.out).mono ?_
  rintro e w1 ⟨v, rfl, hv1, hv2, hb⟩
  have HV2 := M.hl hv2
  have BP1 := M.hl hb
  have x0 : w1.cell? ⟨w.heap.size, 0, none⟩ = some (.slice a0 n c) := M.bxd hb 0 _ rfl
  have x1 : w1.cell? ⟨w.heap.size, 1, none⟩ = some (.int .i64 x) := M.bxd hb 1 _ rfl
  have x2 : w1.cell? ⟨w.heap.size, 2, none⟩ = some (.int .i64 d) := M.bxd hb 2 _ rfl
  have x3 : w1.cell? ⟨w.heap.size, 3, none⟩ = some (.int .i64 t) := M.bxd hb 3 _ rfl
  clear hv2 hb
  by_cases hneg : v < 0
  · go_wp2
    go_ret
    exact ⟨rfl, M.bxd_below BP1.out⟩
  obtain ⟨hl1, h64⟩ := HV2.out (by omega)
  have H64 := M.hl h64
  have hln : ss.length ≤ 1048576 := by have := HN.out; omega
  clear HV2 h64
  go_wp2_with fail
  refine (toSend_any w1 a0 n c ss x d t (HS.out.below (M.bxd_below BP1.out)) (by omega)).mono ?_
  rintro e w2 ⟨p1, rfl, hs2, -, -, hb⟩
  have S2 := M.hl hs2
  have BP2 := M.hl (M.sl BP1.out hb)
  clear hs2 hb x0 x1 x2 x3 BP1
  go_wp2_with fail
  refine (sSendAt_any w2 _ n n ss x d t now S2.out H64.out (by omega)).mono ?_
  rintro e w3 ⟨⟨v3, pv3, sv, y0, y1, y2, ps, code, rfl, hA, hO, hP⟩, hb⟩
  obtain ⟨a3, c3, rfl⟩ := hO.len
  obtain ⟨p3, d3, rfl⟩ := hP.len
  have HA3 := M.hl hA
  have O3 := M.hl hO
  have Q3 := M.hl hP
  have hsv : sv.length ≤ 1048576 := by have := hA.len.1; omega
  have hps : ps.length ≤ 4 := hA.len.2
  have BP3 := M.hl (fun o => (M.sl BP2.out hb).alloc (M.sl BP2.out hb).size o)
  have x0 : ∀ o, (w3.alloc o).cell? ⟨w.heap.size, 0, none⟩ = some (.slice a0 n c) := fun o => M.bxd (BP3.out o) 0 _ rfl
  have x1 : ∀ o, (w3.alloc o).cell? ⟨w.heap.size, 1, none⟩ = some (.int .i64 x) := fun o => M.bxd (BP3.out o) 1 _ rfl
  have x2 : ∀ o, (w3.alloc o).cell? ⟨w.heap.size, 2, none⟩ = some (.int .i64 d) := fun o => M.bxd (BP3.out o) 2 _ rfl
  have x3 : ∀ o, (w3.alloc o).cell? ⟨w.heap.size, 3, none⟩ = some (.int .i64 t) := fun o => M.bxd (BP3.out o) 3 _ rfl
  clear hA hO hP hb S2 BP2
  go_wp2_with fail
  refine (toSend_any _ a0 n c ss x d t (HS.out.below (M.bxd_below (BP3.out _))) (by omega)).mono ?_
  rintro e w4 ⟨q1, rfl, hs4, hr4, hq4, hb⟩
  have hq : w3.heap.size + 1 ≤ q1 := by simpa using hq4
  have hqP : (w.alloc (.cells #[.slice a0 n c, .int .i64 x, .int .i64 d, .int .i64 t] 24)).heap.size ≤ q1 := Nat.le_trans (BP3.out _).size hq4
  have hq2 : q1 < w4.heap.size := hr4.lt
  have S4 := M.hl (fun o => hs4.below (M.all1 (w := w4) o))
  have R4 := M.hl hr4
  have B34 := M.hl hb
  have BP4 := M.hl (M.sl (BP3.out _) hb)
  clear hs4 hr4 hq4 hb x0 x1 x2 x3 BP3
  go_wp2_with fail
  refine (iSendAt_any _ _ n n ss x d t now (S4.out _) H64.out (by omega)).mono ?_
  rintro e w5 ⟨⟨v5, pv5, sv5, z0, z1, z2, ps5, code5, rfl, hA5, hO5, hP5⟩, hb5⟩
  obtain ⟨rfl, rfl, rfl, rfl, rfl, rfl⟩ := HA3.out.same hA5
  obtain ⟨a5, c5, rfl⟩ := hO5.len
  obtain ⟨p5, d5, rfl⟩ := hP5.len
  have O5 := M.hl hO5
  have Q5 := M.hl hP5
  have B45 := M.hl hb5
  have NB5 : Hid (∀ j, (Value.slice a5 sv.length c5).ownBlock = some j → w4.heap.size + 1 ≤ j ∧ j < w5.heap.size) := fun j hj => by
    have := World.ownsRow.lt hO5 j hj
    simpa using this
  have NP5 : Hid (∀ j, (Value.slice p5 ps.length d5).ownBlock = some j → w4.heap.size + 1 ≤ j ∧ j < w5.heap.size) := fun j hj => by
    have := World.ownsRow.lt hP5 j hj
    simpa using this
  have B35 := M.hl (fun o => (M.sl B34.out (M.sl (M.all1 _) hb5)).alloc (M.sl B34.out (M.sl (M.all1 _) hb5)).size o)
  have BP5 := M.hl (fun o => (M.sl BP4.out (M.sl (M.all1 _) hb5)).alloc (M.sl BP4.out (M.sl (M.all1 _) hb5)).size o)
  have h45 : w4.heap.size < w5.heap.size := by have := hb5.size; simp at this; omega
  have m0 : ∀ o, (w5.alloc o).cell? ⟨w3.heap.size, 0, none⟩ = some (.slice a3 sv.length c3) := fun o => M.bxd (B35.out o) 0 _ rfl
  have m1 : ∀ o, (w5.alloc o).cell? ⟨w3.heap.size, 1, none⟩ = some (.int .i64 y0) := fun o => M.bxd (B35.out o) 1 _ rfl
  have m2 : ∀ o, (w5.alloc o).cell? ⟨w3.heap.size, 2, none⟩ = some (.int .i64 y1) := fun o => M.bxd (B35.out o) 2 _ rfl
  have m3 : ∀ o, (w5.alloc o).cell? ⟨w3.heap.size, 3, none⟩ = some (.int .i64 y2) := fun o => M.bxd (B35.out o) 3 _ rfl
  have m4 : ∀ o, (w5.alloc o).cell? ⟨w3.heap.size, 4, none⟩ = some (.slice none 0 0) := fun o => M.bxd (B35.out o) 4 _ rfl
  have m5 : ∀ o, (w5.alloc o).cell? ⟨w3.heap.size, 5, none⟩ = some (.int .i64 0) := fun o => M.bxd (B35.out o) 5 _ rfl
  have m6 : ∀ o, (w5.alloc o).cell? ⟨w3.heap.size, 6, none⟩ = some (.slice p3 ps.length d3) := fun o => M.bxd (B35.out o) 6 _ rfl
  have m7 : ∀ o, (w5.alloc o).cell? ⟨w3.heap.size, 7, none⟩ = some (.int .i64 0) := fun o => M.bxd (B35.out o) 7 _ rfl
  have m8 : ∀ o, (w5.alloc o).cell? ⟨w3.heap.size, 8, none⟩ = some (.int .i64 code) := fun o => M.bxd (B35.out o) 8 _ rfl
  have ST3 : Hid (∀ W, Below (w3.alloc (.cells #[.slice a3 sv.length c3, .int .i64 y0, .int .i64 y1, .int .i64 y2, .slice none 0 0, .int .i64 0, .slice p3 ps.length d3, .int .i64 0, .int .i64 code] 35)).heap.size (w3.alloc (.cells #[.slice a3 sv.length c3, .int .i64 y0, .int .i64 y1, .int .i64 y2, .slice none 0 0, .int .i64 0, .slice p3 ps.length d3, .int .i64 0, .int .i64 code] 35)) W → M.Strs W a3 sv.length c3 sv ∧ M.Pkts W p3 ps.length d3 ps) := fun W hW => by
    obtain ⟨a', cap', e, hs⟩ := ((O3.out.below (M.all1 _)).below hW).strs
    cases e
    obtain ⟨a', cap', e, hp⟩ := ((Q3.out.below (M.all1 _)).below hW).pkts
    cases e
    exact ⟨hs, hp⟩
  have ST5 : Hid (∀ W b b', M.OwnS W b (.slice a5 sv.length c5) sv → M.OwnP W b' (.slice p5 ps.length d5) ps → M.Strs W a5 sv.length c5 sv ∧ M.Pkts W p5 ps.length d5 ps) := fun W b b' h1 h2 => by
    obtain ⟨a', cap', e, hs⟩ := h1.strs
    cases e
    obtain ⟨a', cap', e, hp⟩ := h2.pkts
    cases e
    exact ⟨hs, hp⟩
  clear hA5 hO5 hP5 hb5 B34 BP4
  go_wp2_with fail
  refine (eqLink_same _ a5 a3 p5 p3 sv.length c5 sv.length c3 ps.length d5 ps.length d3 sv ps y0 y1 y2 code (ST5.out _ _ _ (O5.out.below (M.all1 _)) (Q5.out.below (M.all1 _))).1 (ST3.out _ (B35.out _)).1 (ST5.out _ _ _ (O5.out.below (M.all1 _)) (Q5.out.below (M.all1 _))).2 (ST3.out _ (B35.out _)).2).mono ?_
  rintro e w6 ⟨rfl, hb6⟩
  have B56 := M.hl hb6
  have B46 := M.hl (M.sl (M.sl B45.out (M.all1 _)) hb6)
  have B36 := M.hl (M.sl (B35.out _) hb6)
  have BP6 := M.hl (M.sl (BP5.out _) hb6)
  have x0 : w6.cell? ⟨w.heap.size, 0, none⟩ = some (.slice a0 n c) := M.bxd BP6.out 0 _ rfl
  have x1 : w6.cell? ⟨w.heap.size, 1, none⟩ = some (.int .i64 x) := M.bxd BP6.out 1 _ rfl
  have x2 : w6.cell? ⟨w.heap.size, 2, none⟩ = some (.int .i64 d) := M.bxd BP6.out 2 _ rfl
  have x3 : w6.cell? ⟨w.heap.size, 3, none⟩ = some (.int .i64 t) := M.bxd BP6.out 3 _ rfl
  have u0 : w6.cell? ⟨w4.heap.size, 0, none⟩ = some (.slice (some ⟨q1, 0, none⟩) n n) := M.bxd B46.out 0 _ rfl
  have u1 : w6.cell? ⟨w4.heap.size, 1, none⟩ = some (.int .i64 x) := M.bxd B46.out 1 _ rfl
  have u2 : w6.cell? ⟨w4.heap.size, 2, none⟩ = some (.int .i64 d) := M.bxd B46.out 2 _ rfl
  have u3 : w6.cell? ⟨w4.heap.size, 3, none⟩ = some (.int .i64 t) := M.bxd B46.out 3 _ rfl
  clear hb6 m0 m1 m2 m3 m4 m5 m6 m7 m8 B35 BP5
  obtain ⟨N1, hN1⟩ : ∃ N1, N1 = 1 + n := ⟨_, rfl⟩
  obtain ⟨N2, hN2⟩ : ∃ N2, N2 = 1 + sv.length + 4 * ps.length := ⟨_, rfl⟩
  have CMr : Hid (∀ W, M.Row W q1 9 n → Calls Try.prog 17 #[.agg #[.slice (some ⟨q1, 0, none⟩) n n, .int .i64 x, .int .i64 d, .int .i64 t], .int .i64 1] W fun e w' => e = .returned (.int .i64 (N1 : Int)) ∧ W.grownBy w' (some q1)) := fun W hW => by
    rw [hN1]; exact markSend_row W q1 n n x d t hW (by omega)
  have CMo : Hid (∀ W base, M.OwnS W base (.slice a5 sv.length c5) sv → M.OwnP W base (.slice p5 ps.length d5) ps → Calls Try.prog 18 #[.agg #[.slice a5 sv.length c5, .int .i64 y0, .int .i64 y1, .int .i64 y2, .slice none 0 0, .int .i64 0, .slice p5 ps.length d5, .int .i64 0, .int .i64 code], .int .i64 1] W fun e w' => e = .returned (.int .i64 (N2 : Int)) ∧ M.OwnS w' base (.slice a5 sv.length c5) (M.mts sv.length 1) ∧ M.OwnP w' base (.slice p5 ps.length d5) (M.pmarks ps.length (1 + sv.length)) ∧ M.Eff (.slice a5 sv.length c5) (.slice p5 ps.length d5) W w') := fun W base h1 h2 => by
    rw [hN2]; exact markLink_own W base _ _ sv ps y0 y1 y2 code h1 h2 hsv hps
  have CHo : Hid (∀ W base, M.OwnS W base (.slice a5 sv.length c5) (M.mts sv.length 1) → M.OwnP W base (.slice p5 ps.length d5) (M.pmarks ps.length (1 + sv.length)) → Calls Try.prog 19 #[.agg #[.slice a5 sv.length c5, .int .i64 y0, .int .i64 y1, .int .i64 y2, .slice none 0 0, .int .i64 0, .slice p5 ps.length d5, .int .i64 0, .int .i64 code], .int .i64 1] W fun e w' => e = .returned (.int .i64 (N2 : Int)) ∧ Below W.heap.size W w') := fun W base h1 h2 => by
    rw [hN2]; exact heldLink_own W base _ _ sv.length ps.length y0 y1 y2 code h1 h2 hsv hps
  have hN1b : N1 ≤ 3000000 := by omega
  have hN2b : N2 ≤ 3000000 := by omega
  have dN1 : decide ((N1 : Int) < 0) = false := decide_eq_false (by omega)
  have dN2 : decide ((N2 : Int) < 0) = false := decide_eq_false (by omega)
  have dq : ((N2 : Int) != (N2 : Int)) = false := by simp
  clear hN1 hN2
  have B6d : Hid (Below w6.heap.size w6 w6.drew) := (Below.refl _ _).drew
  have CT : Hid (Calls Try.prog 11 #[.agg #[.slice a0 n c, .int .i64 x, .int .i64 d, .int .i64 t]] w6.drew fun e w' => ∃ r1 : Nat, e = .returned (.agg #[.slice (some ⟨r1, 0, none⟩) n n, .int .i64 x, .int .i64 d, .int .i64 t]) ∧ M.Strs w' (some ⟨r1, 0, none⟩) n n ss ∧ Below w6.heap.size w6 w') :=
    (toSend_any w6.drew a0 n c ss x d t (HS.out.below (M.sl (M.bxd_below BP6.out) B6d.out)) (by omega)).mono (by rintro e w' ⟨r1, rfl, hs, -, -, hb⟩; exact ⟨r1, rfl, hs, M.sl B6d.out hb⟩)
  go_wp2_with fail
  go_region_with (first | (go_at_call 11; refine CT.out.mono ?_; rintro e w8 ⟨r1, rfl, hs8, hb8⟩; have S8 := M.hl hs8; have B68 := M.hl hb8; have z0 : w8.cell? ⟨w4.heap.size, 0, none⟩ = some (.slice (some ⟨q1, 0, none⟩) n n) := M.bxd (M.sl B46.out B68.out) 0 _ rfl; have z1 : w8.cell? ⟨w4.heap.size, 1, none⟩ = some (.int .i64 x) := M.bxd (M.sl B46.out B68.out) 1 _ rfl; have z2 : w8.cell? ⟨w4.heap.size, 2, none⟩ = some (.int .i64 d) := M.bxd (M.sl B46.out B68.out) 2 _ rfl; have z3 : w8.cell? ⟨w4.heap.size, 3, none⟩ = some (.int .i64 t) := M.bxd (M.sl B46.out B68.out) 3 _ rfl; clear hs8 hb8) | (go_at_call 13; refine (eqSend_same w8 _ _ n n n n ss x d t ((S4.out _).below (M.sl B46.out B68.out)) S8.out).mono ?_; rintro e w9 ⟨rfl, hb9⟩; have B69 := M.hl (M.sl B68.out hb9); clear hb9 S8))
  all_goals
    have B49 := M.hl (M.sl B46.out B69.out)
    have v0 : w9.cell? ⟨w4.heap.size, 0, none⟩ = some (.slice (some ⟨q1, 0, none⟩) n n) := M.bxd B49.out 0 _ rfl
    have v1 : w9.cell? ⟨w4.heap.size, 1, none⟩ = some (.int .i64 x) := M.bxd B49.out 1 _ rfl
    have v2 : w9.cell? ⟨w4.heap.size, 2, none⟩ = some (.int .i64 d) := M.bxd B49.out 2 _ rfl
    have v3 : w9.cell? ⟨w4.heap.size, 3, none⟩ = some (.int .i64 t) := M.bxd B49.out 3 _ rfl
    have B39 := M.hl (M.sl B36.out B69.out)
    have BP9 := M.hl (M.sl BP6.out B69.out)
    have B59 := M.hl (M.sl B56.out B69.out)
    have R9 := M.hl (R4.out.of_block (((M.sl (M.all1 _) B49.out).block q1 hq2)))
    clear B49
    go_wp2_with fail
    refine (CMr.out w9 R9.out).mono ?_
    rintro e w10 ⟨rfl, hg⟩
    have B310 := M.hl (B39.out.grown hg B39.out.size (fun j hj => by cases hj; simpa using hq))
    have BP10 := M.hl (BP9.out.grown hg BP9.out.size (fun j hj => by cases hj; exact hqP))
    have O10 := M.hl (((O5.out.below (M.all1 _)).below B59.out).grw hg (fun j hj e => by cases e; have := (NB5.out _ hj).1; omega))
    have Q10 := M.hl (((Q5.out.below (M.all1 _)).below B59.out).grown hg (fun j hj e => by cases e; have := (NP5.out _ hj).1; omega))
    have E10 := M.hl ((hg.block w5.heap.size (by have := B59.out.size; simp at this; omega) (by simp; omega)).trans ((B59.out.block w5.heap.size (by simp)).trans (heap_alloc_new _ _)))
    clear hg v0 v1 v2 v3 z0 z1 z2 z3 x0 x1 x2 x3 u0 u1 u2 u3
    have f0 := M.bk_cell E10.out 0 (.slice a5 sv.length c5) rfl
    have f1 := M.bk_cell E10.out 1 (.int .i64 y0) rfl
    have f2 := M.bk_cell E10.out 2 (.int .i64 y1) rfl
    have f3 := M.bk_cell E10.out 3 (.int .i64 y2) rfl
    have f4 := M.bk_cell E10.out 4 (.slice none 0 0) rfl
    have f5 := M.bk_cell E10.out 5 (.int .i64 0) rfl
    have f6 := M.bk_cell E10.out 6 (.slice p5 ps.length d5) rfl
    have f7 := M.bk_cell E10.out 7 (.int .i64 0) rfl
    have f8 := M.bk_cell E10.out 8 (.int .i64 code) rfl
    have m0 : w10.cell? ⟨w3.heap.size, 0, none⟩ = some (.slice a3 sv.length c3) := M.bxd B310.out 0 _ rfl
    have m1 : w10.cell? ⟨w3.heap.size, 1, none⟩ = some (.int .i64 y0) := M.bxd B310.out 1 _ rfl
    have m2 : w10.cell? ⟨w3.heap.size, 2, none⟩ = some (.int .i64 y1) := M.bxd B310.out 2 _ rfl
    have m3 : w10.cell? ⟨w3.heap.size, 3, none⟩ = some (.int .i64 y2) := M.bxd B310.out 3 _ rfl
    have m4 : w10.cell? ⟨w3.heap.size, 4, none⟩ = some (.slice none 0 0) := M.bxd B310.out 4 _ rfl
    have m5 : w10.cell? ⟨w3.heap.size, 5, none⟩ = some (.int .i64 0) := M.bxd B310.out 5 _ rfl
    have m6 : w10.cell? ⟨w3.heap.size, 6, none⟩ = some (.slice p3 ps.length d3) := M.bxd B310.out 6 _ rfl
    have m7 : w10.cell? ⟨w3.heap.size, 7, none⟩ = some (.int .i64 0) := M.bxd B310.out 7 _ rfl
    have m8 : w10.cell? ⟨w3.heap.size, 8, none⟩ = some (.int .i64 code) := M.bxd B310.out 8 _ rfl
    go_wp2_with fail
    refine (eqLink_same w10 a5 a3 p5 p3 sv.length c5 sv.length c3 ps.length d5 ps.length d3 sv ps y0 y1 y2 code (ST5.out _ _ _ O10.out Q10.out).1 (ST3.out _ B310.out).1 (ST5.out _ _ _ O10.out Q10.out).2 (ST3.out _ B310.out).2).mono ?_
    rintro e w11 ⟨rfl, hb⟩
    have B311 := M.hl (M.sl B310.out hb)
    have BP11 := M.hl (M.sl BP10.out hb)
    have O11 := M.hl (O10.out.below hb)
    have Q11 := M.hl (Q10.out.below hb)
    have E11 := M.hl ((hb.block w5.heap.size (Array.getElem?_eq_some_iff.1 E10.out).1).trans E10.out)
    clear hb f0 f1 f2 f3 f4 f5 f6 f7 f8 m0 m1 m2 m3 m4 m5 m6 m7 m8
    have f0 := M.bk_cell E11.out 0 (.slice a5 sv.length c5) rfl
    have f1 := M.bk_cell E11.out 1 (.int .i64 y0) rfl
    have f2 := M.bk_cell E11.out 2 (.int .i64 y1) rfl
    have f3 := M.bk_cell E11.out 3 (.int .i64 y2) rfl
    have f4 := M.bk_cell E11.out 4 (.slice none 0 0) rfl
    have f5 := M.bk_cell E11.out 5 (.int .i64 0) rfl
    have f6 := M.bk_cell E11.out 6 (.slice p5 ps.length d5) rfl
    have f7 := M.bk_cell E11.out 7 (.int .i64 0) rfl
    have f8 := M.bk_cell E11.out 8 (.int .i64 code) rfl
    go_wp2_with fail
    refine (CMo.out w11 _ O11.out Q11.out).mono ?_
    rintro e w12 ⟨rfl, hO, hP, hE⟩
    have O12 := M.hl hO
    have Q12 := M.hl hP
    have B312 := M.hl (hE.1 _ (fun j hj => by have := (NB5.out j hj).1; simp; omega) (fun j hj => by have := (NP5.out j hj).1; simp; omega) B311.out)
    have BP12 := M.hl (hE.1 _ (fun j hj => by have := (NB5.out j hj).1; omega) (fun j hj => by have := (NP5.out j hj).1; omega) BP11.out)
    have E12 := M.hl ((hE.2 w5.heap.size (Array.getElem?_eq_some_iff.1 E11.out).1 (fun e => by have := (NB5.out _ e).2; omega) (fun e => by have := (NP5.out _ e).2; omega)).trans E11.out)
    clear hO hP hE f0 f1 f2 f3 f4 f5 f6 f7 f8
    have f0 := M.bk_cell E12.out 0 (.slice a5 sv.length c5) rfl
    have f1 := M.bk_cell E12.out 1 (.int .i64 y0) rfl
    have f2 := M.bk_cell E12.out 2 (.int .i64 y1) rfl
    have f3 := M.bk_cell E12.out 3 (.int .i64 y2) rfl
    have f4 := M.bk_cell E12.out 4 (.slice none 0 0) rfl
    have f5 := M.bk_cell E12.out 5 (.int .i64 0) rfl
    have f6 := M.bk_cell E12.out 6 (.slice p5 ps.length d5) rfl
    have f7 := M.bk_cell E12.out 7 (.int .i64 0) rfl
    have f8 := M.bk_cell E12.out 8 (.int .i64 code) rfl
    go_wp2_with fail
    refine (CHo.out w12 _ O12.out Q12.out).mono ?_
    rintro e w13 ⟨rfl, hb⟩
    have B313 := M.hl (M.sl B312.out hb)
    have BP13 := M.hl (M.sl BP12.out hb)
    have O13 := M.hl (O12.out.below hb)
    have Q13 := M.hl (Q12.out.below hb)
    have E13 := M.hl ((hb.block w5.heap.size (Array.getElem?_eq_some_iff.1 E12.out).1).trans E12.out)
    clear hb f0 f1 f2 f3 f4 f5 f6 f7 f8
    have x0 : w13.cell? ⟨w.heap.size, 0, none⟩ = some (.slice a0 n c) := M.bxd BP13.out 0 _ rfl
    have x1 : w13.cell? ⟨w.heap.size, 1, none⟩ = some (.int .i64 x) := M.bxd BP13.out 1 _ rfl
    have x2 : w13.cell? ⟨w.heap.size, 2, none⟩ = some (.int .i64 d) := M.bxd BP13.out 2 _ rfl
    have x3 : w13.cell? ⟨w.heap.size, 3, none⟩ = some (.int .i64 t) := M.bxd BP13.out 3 _ rfl
    go_wp2_with fail
    refine (toSend_any w13 a0 n c ss x d t (HS.out.below (M.bxd_below BP13.out)) (by omega)).mono ?_
    rintro e w14 ⟨p14, rfl, hs, -, -, hb⟩
    have S14 := M.hl hs
    have B1314 := M.hl hb
    clear hs hb x0 x1 x2 x3
    go_wp2_with fail
    refine (iSendAt_any w14 _ n n ss x d t now S14.out H64.out (by omega)).mono ?_
    rintro e w15 ⟨⟨v15, pv15, sv15, t0, t1, t2, ps15, code15, rfl, hA, hO, hP⟩, hb⟩
    obtain ⟨rfl, rfl, rfl, rfl, rfl, rfl⟩ := HA3.out.same hA
    obtain ⟨a15, c15, e15, hs15⟩ := hO.strs
    obtain ⟨p15, d15, f15, hp15⟩ := hP.pkts
    subst e15
    subst f15
    have B15 := M.hl (fun o => M.sl (M.sl B1314.out hb) (M.all1 (w := w15) o))
    have B315 := M.hl (fun o => M.sl B313.out (B15.out o))
    have S15 : Hid (∀ o, M.Strs (w15.alloc o) a15 sv.length c15 sv) := fun o => hs15.below (M.all1 o)
    have T15 : Hid (∀ o, M.Pkts (w15.alloc o) p15 ps.length d15 ps) := fun o => hp15.below (M.all1 o)
    clear hA hO hP hb hs15 hp15 S14 B1314
    have m0 : ∀ o, (w15.alloc o).cell? ⟨w3.heap.size, 0, none⟩ = some (.slice a3 sv.length c3) := fun o => M.bxd (B315.out o) 0 _ rfl
    have m1 : ∀ o, (w15.alloc o).cell? ⟨w3.heap.size, 1, none⟩ = some (.int .i64 y0) := fun o => M.bxd (B315.out o) 1 _ rfl
    have m2 : ∀ o, (w15.alloc o).cell? ⟨w3.heap.size, 2, none⟩ = some (.int .i64 y1) := fun o => M.bxd (B315.out o) 2 _ rfl
    have m3 : ∀ o, (w15.alloc o).cell? ⟨w3.heap.size, 3, none⟩ = some (.int .i64 y2) := fun o => M.bxd (B315.out o) 3 _ rfl
    have m4 : ∀ o, (w15.alloc o).cell? ⟨w3.heap.size, 4, none⟩ = some (.slice none 0 0) := fun o => M.bxd (B315.out o) 4 _ rfl
    have m5 : ∀ o, (w15.alloc o).cell? ⟨w3.heap.size, 5, none⟩ = some (.int .i64 0) := fun o => M.bxd (B315.out o) 5 _ rfl
    have m6 : ∀ o, (w15.alloc o).cell? ⟨w3.heap.size, 6, none⟩ = some (.slice p3 ps.length d3) := fun o => M.bxd (B315.out o) 6 _ rfl
    have m7 : ∀ o, (w15.alloc o).cell? ⟨w3.heap.size, 7, none⟩ = some (.int .i64 0) := fun o => M.bxd (B315.out o) 7 _ rfl
    have m8 : ∀ o, (w15.alloc o).cell? ⟨w3.heap.size, 8, none⟩ = some (.int .i64 code) := fun o => M.bxd (B315.out o) 8 _ rfl
    go_wp2_with fail
    refine (eqLink_same _ a15 a3 p15 p3 sv.length c15 sv.length c3 ps.length d15 ps.length d3 sv ps y0 y1 y2 code (S15.out _) (ST3.out _ (B315.out _)).1 (T15.out _) (ST3.out _ (B315.out _)).2).mono ?_
    rintro e w16 ⟨rfl, hb⟩
    have B16 := M.hl (M.sl (B15.out _) hb)
    have O16 := M.hl (O13.out.below B16.out)
    have Q16 := M.hl (Q13.out.below B16.out)
    have E16 := M.hl ((B16.out.block w5.heap.size (Array.getElem?_eq_some_iff.1 E13.out).1).trans E13.out)
    clear hb m0 m1 m2 m3 m4 m5 m6 m7 m8
    have f0 := M.bk_cell E16.out 0 (.slice a5 sv.length c5) rfl
    have f1 := M.bk_cell E16.out 1 (.int .i64 y0) rfl
    have f2 := M.bk_cell E16.out 2 (.int .i64 y1) rfl
    have f3 := M.bk_cell E16.out 3 (.int .i64 y2) rfl
    have f4 := M.bk_cell E16.out 4 (.slice none 0 0) rfl
    have f5 := M.bk_cell E16.out 5 (.int .i64 0) rfl
    have f6 := M.bk_cell E16.out 6 (.slice p5 ps.length d5) rfl
    have f7 := M.bk_cell E16.out 7 (.int .i64 0) rfl
    have f8 := M.bk_cell E16.out 8 (.int .i64 code) rfl
    go_wp2_with fail
    refine (CHo.out w16 _ O16.out Q16.out).mono ?_
    rintro e w17 ⟨rfl, hb⟩
    have BP17 := M.hl (M.bxd_below (M.sl (M.sl BP13.out B16.out) hb))
    clear hb f0 f1 f2 f3 f4 f5 f6 f7 f8
    go_wp2
    go_ret
    exact ⟨rfl, BP17.out⟩
end Go.Proofs.Ytafenhodfoflbab
