/-
  DumpRead of the program answers as that of the specification, at every text; its answer owns its memory.
-/
import Derived.Test.YtpokcbcffijheaaSDumpOut
import Derived.Test.YtpokcbcffijheaaPart5
namespace Go.Proofs.Ytpokcbcffijheaa
open Go.RowKit

theorem M.dread_len (t : ByteArray) : (M.dread t).1.ps.length ≤ 8 := by
  unfold M.dread
  split
  · exact Nat.zero_le _
  split
  · exact Nat.zero_le _
  · rename_i h1 h2
    have h3 : M.rok t = true := by
      by_cases e : M.rok t = true
      · exact e
      · have := M.dread_rok h1
        rw [if_neg e] at this
        unfold M.dread at this
        rw [if_neg h1, if_neg h2] at this
        have h5 : (0 : Int) = 3 := congrArg Prod.snd this
        exact absurd h5 (by decide)
    unfold M.rok at h3
    simp only [Bool.and_eq_true] at h3
    exact (M.dumpR_parts h3.2).1

set_option maxRecDepth 100000 in
set_option maxHeartbeats 3200000 in
theorem fnExactDumpRead_walk (t : ByteArray) (w : World) (hz : t.size ≤ maxLen) :
    Calls Try.prog 6 #[.string t] w fun e w' => e = .returned (.bool true) ∧ Below w.heap.size w w' := by
  have hz5 : t.size ≤ 9223372036854775807 := by unfold maxLen at hz; omega
  have HL8 := M.hl (M.dread_len t)
  have CS : Hid (∀ W, Calls Try.prog 15 #[.string t] W fun e w' => ∃ v, e = .returned (M.doval (M.dread t).1 v (M.dread t).2) ∧ M.OwnPt w' W.heap.size v (M.dread t).1.ps ∧ Below W.heap.size W w') := fun W => sDumpRead_any W t hz
  have CI : Hid (∀ W, Calls Try.prog 12 #[.string t] W fun e w' => ∃ v, e = .returned (M.doval (M.dread t).1 v (M.dread t).2) ∧ M.OwnPt w' W.heap.size v (M.dread t).1.ps ∧ Below W.heap.size W w') := fun W => iDumpRead_any W t hz
  clear hz
  generalize (M.dread t).2 = z at CS CI
  generalize (M.dread t).1 = d at CS CI HL8
  obtain ⟨x1, hs, x2, x3, x4, x5, x6, x7, ps⟩ := d
  unfold M.doval at CS CI
  simp only at CS CI HL8
  by_cases hbig : 1048576 < t.size
  · have d1 : decide (1048576 < (t.size : Int)) = true := decide_eq_true (by omega)
    clear CS CI
    go_enter Try.func6, Try.ntmps6
    go_wp2
    go_ret
    exact ⟨rfl, Below.refl _ _⟩
  have d1 : decide (1048576 < (t.size : Int)) = false := decide_eq_false (by omega)
  clear hbig
  go_enter Try.func6, Try.ntmps6
  go_wp2_with fail
  refine (CS.out _).mono ?_
  rintro e w1 ⟨v1, rfl, hO, hb⟩
  obtain ⟨a1, c1, rfl⟩ := hO.len
  obtain ⟨W1, hW1⟩ : ∃ W1, W1 = w1.alloc (.cells #[.int .i64 x1, .string hs, .int .i64 x2, .int .i64 x3, .int .i64 x4, .int .i64 x5, .int .i64 x6, .int .i64 x7, .slice a1 ps.length c1, .int .i64 z] 30) := ⟨_, rfl⟩
  have S1 : Hid (M.OwnPt W1 w.heap.size (.slice a1 ps.length c1) ps) := by rw [hW1]; exact hO.below ((Below.refl _ _).alloc (Nat.le_refl _) _)
  have HOV : Hid (∀ g, (Value.slice a1 ps.length c1).ownBlock = some g → g < w1.heap.size) := fun g hg => (World.ownsRow.lt hO g hg).2
  have X1 : Hid (W1.heap[w1.heap.size]? = some (.cells #[.int .i64 x1, .string hs, .int .i64 x2, .int .i64 x3, .int .i64 x4, .int .i64 x5, .int .i64 x6, .int .i64 x7, .slice a1 ps.length c1, .int .i64 z] 30 (0, 0))) := by rw [hW1]; exact heap_alloc_new _ _
  have B1 : Hid (Below w.heap.size w W1) := by rw [hW1]; exact hb.alloc hb.size _
  have B1Z : Hid (w.heap.size ≤ W1.heap.size) := B1.out.size
  have Z1 : Hid (W1.heap.size = w1.heap.size + 1) := by rw [hW1]; show _ = _; simp
  have HW1 := M.hl hW1
  clear hO hb hW1 CS
  go_wp2_with fail
  rw [← HW1.out]
  refine (CI.out W1).mono ?_
  rintro e w2 ⟨v2, rfl, hO, hb⟩
  obtain ⟨a2, c2, rfl⟩ := hO.len
  obtain ⟨W2, hW2⟩ : ∃ W2, W2 = w2.alloc (.cells #[.int .i64 x1, .string hs, .int .i64 x2, .int .i64 x3, .int .i64 x4, .int .i64 x5, .int .i64 x6, .int .i64 x7, .slice a2 ps.length c2, .int .i64 z] 30) := ⟨_, rfl⟩
  have hb2 : Below W1.heap.size W1 W2 := by rw [hW2]; exact hb.alloc hb.size _
  have S2 := M.hl (S1.out.below hb2)
  have X2 := M.hl (M.keepO X1.out hb2)
  have O2 : Hid (M.OwnPt W2 W1.heap.size (.slice a2 ps.length c2) ps) := by rw [hW2]; exact hO.below ((Below.refl _ _).alloc (Nat.le_refl _) _)
  have Y2 : Hid (W2.heap[w2.heap.size]? = some (.cells #[.int .i64 x1, .string hs, .int .i64 x2, .int .i64 x3, .int .i64 x4, .int .i64 x5, .int .i64 x6, .int .i64 x7, .slice a2 ps.length c2, .int .i64 z] 30 (0, 0))) := by rw [hW2]; exact heap_alloc_new _ _
  have B2 := M.hl (M.sl B1.out hb2)
  have HOW : Hid (∀ g, (Value.slice a2 ps.length c2).ownBlock = some g → W1.heap.size ≤ g ∧ g < w2.heap.size) := fun g hg => World.ownsRow.lt hO g hg
  have X2A : Hid (∀ o, (w2.alloc o).heap[w1.heap.size]? = some (.cells #[.int .i64 x1, .string hs, .int .i64 x2, .int .i64 x3, .int .i64 x4, .int .i64 x5, .int .i64 x6, .int .i64 x7, .slice a1 ps.length c1, .int .i64 z] 30 (0, 0))) := fun o => M.keepO X1.out (hb.alloc hb.size _)
  have W12 : Hid (W1.heap.size ≤ w2.heap.size) := hb.size
  have Z2 : Hid (w2.heap.size < W2.heap.size) := by rw [hW2]; show _ < _; simp
  have HW2 := M.hl hW2
  have CE2 := M.hl (eqDumpOut_same W2 x1 hs x2 x3 x4 x5 x6 x7 a2 a1 ps.length c2 ps.length c1 ps z O2.out.at_slice S2.out.at_slice)
  clear hO hb hb2 hW2 S1 X1 B1 HW1
  have y0 : ∀ o, (w2.alloc o).cell? ⟨w1.heap.size, 0, none⟩ = some (.int .i64 x1) := fun o => M.bk_cell (X2A.out o) 0 _ rfl
  have y1 : ∀ o, (w2.alloc o).cell? ⟨w1.heap.size, 1, none⟩ = some (.string hs) := fun o => M.bk_cell (X2A.out o) 1 _ rfl
  have y2 : ∀ o, (w2.alloc o).cell? ⟨w1.heap.size, 2, none⟩ = some (.int .i64 x2) := fun o => M.bk_cell (X2A.out o) 2 _ rfl
  have y3 : ∀ o, (w2.alloc o).cell? ⟨w1.heap.size, 3, none⟩ = some (.int .i64 x3) := fun o => M.bk_cell (X2A.out o) 3 _ rfl
  have y4 : ∀ o, (w2.alloc o).cell? ⟨w1.heap.size, 4, none⟩ = some (.int .i64 x4) := fun o => M.bk_cell (X2A.out o) 4 _ rfl
  have y5 : ∀ o, (w2.alloc o).cell? ⟨w1.heap.size, 5, none⟩ = some (.int .i64 x5) := fun o => M.bk_cell (X2A.out o) 5 _ rfl
  have y6 : ∀ o, (w2.alloc o).cell? ⟨w1.heap.size, 6, none⟩ = some (.int .i64 x6) := fun o => M.bk_cell (X2A.out o) 6 _ rfl
  have y7 : ∀ o, (w2.alloc o).cell? ⟨w1.heap.size, 7, none⟩ = some (.int .i64 x7) := fun o => M.bk_cell (X2A.out o) 7 _ rfl
  have y8 : ∀ o, (w2.alloc o).cell? ⟨w1.heap.size, 8, none⟩ = some (.slice a1 ps.length c1) := fun o => M.bk_cell (X2A.out o) 8 _ rfl
  have y9 : ∀ o, (w2.alloc o).cell? ⟨w1.heap.size, 9, none⟩ = some (.int .i64 z) := fun o => M.bk_cell (X2A.out o) 9 _ rfl
  go_wp2_with fail
  rw [← HW2.out]
  refine CE2.out.mono ?_
  rintro e w3 ⟨rfl, hb⟩
  have S3 := M.hl (S2.out.below hb)
  have X3 := M.hl (M.keepO X2.out hb)
  have O3 := M.hl (O2.out.below hb)
  have Y3 := M.hl (M.keepO Y2.out hb)
  have B3 := M.hl (M.sl B2.out hb)
  have Z3 := M.hl (Nat.lt_of_lt_of_le Z2.out hb.size)
  clear hb CE2 y0 y1 y2 y3 y4 y5 y6 y7 y8 y9 X2A S2 X2 O2 Y2 B2
  obtain ⟨u0, u1, u2, u3, u4, u5, u6, u7, u8, u9⟩ := M.bk10 Y3.out
  have CM := M.hl (markDumpOut_own w3 W1.heap.size x1 hs x2 x3 x4 x5 x6 x7 a2 c2 ps z 1 O3.out (by have := HL8.out; omega) (Nat.le_refl _) (by omega))
  rw [show ((1 : Nat) : Int) = 1 from rfl] at CM
  obtain ⟨K, hK⟩ : ∃ K, K = 1 + 4 * ps.length := ⟨_, rfl⟩
  have HK := M.hl hK
  rw [← hK] at CM
  have dk : decide ((K : Int) < 0) = false := decide_eq_false (by omega)
  clear hK
  go_wp2_with fail
  refine CM.out.mono ?_
  rintro e w4 ⟨rfl, hO, hg⟩
  have hm : M.Mid W1.heap.size w2.heap.size w3 w4 := M.Mid.of_grown hg HOW.out
  have S4 := M.hl (S3.out.mid hm (fun g hg => .inl (by have := HOV.out g hg; have := Z1.out; omega)))
  have X4 := M.hl (M.keepM9 X3.out hm (.inl (by have := Z1.out; omega)))
  have Y4 := M.hl (M.keepM9 Y3.out hm (.inr (Nat.le_refl _)))
  have O4 := M.hl hO
  have B4 := M.hl (M.midB B3.out hm (by have := B1Z.out; omega) (by have := Z2.out; have := Z3.out; have := W12.out; omega))
  have Z4 := M.hl (Nat.lt_of_lt_of_le Z3.out hm.size)
  clear hO hg hm CM S3 X3 Y3 O3 B3 u0 u1 u2 u3 u4 u5 u6 u7 u8 u9
  obtain ⟨u0, u1, u2, u3, u4, u5, u6, u7, u8, u9⟩ := M.bk10 Y4.out
  have CH := M.hl (heldDumpOut_own w4 W1.heap.size x1 hs x2 x3 x4 x5 x6 x7 a2 ps.length c2 z 1 O4.out (by have := HL8.out; omega) (Nat.le_refl _) (by omega))
  rw [show ((1 : Nat) : Int) = 1 from rfl, ← HK.out] at CH
  go_wp2_with fail
  refine CH.out.mono ?_
  rintro e w5 ⟨rfl, hb⟩
  have S5 := M.hl (S4.out.below hb)
  have X5 := M.hl (M.keepO X4.out hb)
  have Y5 := M.hl (M.keepO Y4.out hb)
  have O5 := M.hl (O4.out.below hb)
  have B5 := M.hl (M.sl B4.out hb)
  clear hb CH S4 X4 Y4 O4 B4 u0 u1 u2 u3 u4 u5 u6 u7 u8 u9
  go_wp2_with fail
  refine (CI.out w5).mono ?_
  rintro e w6 ⟨v6, rfl, hO, hb⟩
  obtain ⟨a6, c6, rfl⟩ := hO.len
  obtain ⟨W6, hW6⟩ : ∃ W6, W6 = w6.alloc (.cells #[.int .i64 x1, .string hs, .int .i64 x2, .int .i64 x3, .int .i64 x4, .int .i64 x5, .int .i64 x6, .int .i64 x7, .slice a6 ps.length c6, .int .i64 z] 30) := ⟨_, rfl⟩
  have hb6 : Below w5.heap.size w5 W6 := by rw [hW6]; exact hb.alloc hb.size _
  have S6 := M.hl (S5.out.below hb6)
  have O6 := M.hl (O5.out.below hb6)
  have Y6 := M.hl (M.keepO Y5.out hb6)
  have Q6 : Hid (M.OwnPt W6 w5.heap.size (.slice a6 ps.length c6) ps) := by rw [hW6]; exact hO.below ((Below.refl _ _).alloc (Nat.le_refl _) _)
  have B6 := M.hl (M.sl B5.out hb6)
  have X6A : Hid (∀ o, (w6.alloc o).heap[w1.heap.size]? = some (.cells #[.int .i64 x1, .string hs, .int .i64 x2, .int .i64 x3, .int .i64 x4, .int .i64 x5, .int .i64 x6, .int .i64 x7, .slice a1 ps.length c1, .int .i64 z] 30 (0, 0))) := fun o => M.keepO X5.out (hb.alloc hb.size _)
  have HW6 := M.hl hW6
  have CE6 := M.hl (eqDumpOut_same W6 x1 hs x2 x3 x4 x5 x6 x7 a6 a1 ps.length c6 ps.length c1 ps z Q6.out.at_slice S6.out.at_slice)
  clear hO hb hb6 hW6 S5 X5 O5 Y5 B5
  have y0 : ∀ o, (w6.alloc o).cell? ⟨w1.heap.size, 0, none⟩ = some (.int .i64 x1) := fun o => M.bk_cell (X6A.out o) 0 _ rfl
  have y1 : ∀ o, (w6.alloc o).cell? ⟨w1.heap.size, 1, none⟩ = some (.string hs) := fun o => M.bk_cell (X6A.out o) 1 _ rfl
  have y2 : ∀ o, (w6.alloc o).cell? ⟨w1.heap.size, 2, none⟩ = some (.int .i64 x2) := fun o => M.bk_cell (X6A.out o) 2 _ rfl
  have y3 : ∀ o, (w6.alloc o).cell? ⟨w1.heap.size, 3, none⟩ = some (.int .i64 x3) := fun o => M.bk_cell (X6A.out o) 3 _ rfl
  have y4 : ∀ o, (w6.alloc o).cell? ⟨w1.heap.size, 4, none⟩ = some (.int .i64 x4) := fun o => M.bk_cell (X6A.out o) 4 _ rfl
  have y5 : ∀ o, (w6.alloc o).cell? ⟨w1.heap.size, 5, none⟩ = some (.int .i64 x5) := fun o => M.bk_cell (X6A.out o) 5 _ rfl
  have y6 : ∀ o, (w6.alloc o).cell? ⟨w1.heap.size, 6, none⟩ = some (.int .i64 x6) := fun o => M.bk_cell (X6A.out o) 6 _ rfl
  have y7 : ∀ o, (w6.alloc o).cell? ⟨w1.heap.size, 7, none⟩ = some (.int .i64 x7) := fun o => M.bk_cell (X6A.out o) 7 _ rfl
  have y8 : ∀ o, (w6.alloc o).cell? ⟨w1.heap.size, 8, none⟩ = some (.slice a1 ps.length c1) := fun o => M.bk_cell (X6A.out o) 8 _ rfl
  have y9 : ∀ o, (w6.alloc o).cell? ⟨w1.heap.size, 9, none⟩ = some (.int .i64 z) := fun o => M.bk_cell (X6A.out o) 9 _ rfl
  go_wp2_with fail
  rw [← HW6.out]
  refine CE6.out.mono ?_
  rintro e w7 ⟨rfl, hb⟩
  have O7 := M.hl (O6.out.below hb)
  have Y7 := M.hl (M.keepO Y6.out hb)
  have B7 := M.hl (M.sl B6.out hb)
  clear hb CE6 y0 y1 y2 y3 y4 y5 y6 y7 y8 y9 X6A S6 O6 Y6 B6 Q6
  obtain ⟨u0, u1, u2, u3, u4, u5, u6, u7, u8, u9⟩ := M.bk10 Y7.out
  have CH := M.hl (heldDumpOut_own w7 W1.heap.size x1 hs x2 x3 x4 x5 x6 x7 a2 ps.length c2 z 1 O7.out (by have := HL8.out; omega) (Nat.le_refl _) (by omega))
  rw [show ((1 : Nat) : Int) = 1 from rfl, ← HK.out] at CH
  go_wp2_with fail
  refine CH.out.mono ?_
  rintro e w8 ⟨rfl, hb⟩
  have B8 := M.hl (M.sl B7.out hb)
  clear hb CH u0 u1 u2 u3 u4 u5 u6 u7 u8 u9
  go_wp2
  go_ret
  exact ⟨rfl, B8.out⟩
end Go.Proofs.Ytpokcbcffijheaa
