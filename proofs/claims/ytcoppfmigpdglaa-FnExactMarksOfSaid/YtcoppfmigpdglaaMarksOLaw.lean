/-
  MarksOf of the program answers as that of the specification, at every row of dumps and every text; its answer owns its memory.
-/
import Derived.Test.YtcoppfmigpdglaaMarksOW
import Derived.Test.YtcoppfmigpdglaaMkMarks
import Derived.Test.YtcoppfmigpdglaaDumpMarks
import Derived.Test.YtcoppfmigpdglaaOpenDumps
namespace Go.Proofs.Ytcoppfmigpdglaa
open Go.RowKit

theorem M.OwnK.mid {lo hi base : Nat} {w w' : World} {v : Value} {ps : List M.MkD} (h : M.OwnK w base v ps) (hm : M.Mid lo hi w w') (ho : ∀ g, v.ownBlock = some g → g < lo ∨ hi ≤ g) : M.OwnK w' base v ps := by
  obtain ⟨hl, h0 | ⟨g, cap, cur, hv, hg, hh, hr⟩⟩ := h
  · exact ⟨hl, .inl h0⟩
  · exact ⟨hl, .inr ⟨g, cap, cur, hv, hg, by rw [hm.block g (Array.getElem?_eq_some_iff.1 hh).1 (ho g (by rw [hv]; rfl))]; exact hh, hr⟩⟩
theorem M.OwnK.at_sl {w : World} {base n c : Nat} {a : Option Addr} {ms : List M.MkD} (h : M.OwnK w base (.slice a n c) ms) : M.Mks w a n c ms := by
  obtain ⟨a', c', e, hv⟩ := h.mks
  cases e
  exact hv
theorem M.mid_own {lo hi : Nat} {a b : World} {v : Value} (h : a.grownBy b v.ownBlock) (hv : ∀ g, v.ownBlock = some g → lo ≤ g ∧ g < hi) : M.Mid lo hi a b := M.Mid.of_grown h hv

set_option maxRecDepth 100000 in
set_option maxHeartbeats 3200000 in
theorem fnExactMarksOf_walk (a0 : Option Addr) (n c : Nat) (ds : List M.DumpD) (host : ByteArray) (w : World) (h : M.Dps w a0 n c ds) (hok : ∀ d ∈ ds, M.dok d) (hz : host.size ≤ maxLen) :
    Calls Try.prog 7 #[.slice a0 n c, .string host] w fun e w' => e = .returned (.bool true) ∧ Below w.heap.size w w' := by
  have HS := M.hl h
  have HO := M.hl hok
  have HZ := M.hl hz
  have HN : Hid (n = ds.length) := h.1
  have hz5 : host.size ≤ 9223372036854775807 := by unfold maxLen at hz; omega
  clear h hok hz
  by_cases hbig : 1048576 < host.size
  · have d1 : decide (1048576 < (host.size : Int)) = true := decide_eq_true (by omega)
    go_enter Try.func7, Try.ntmps7
    go_wp2
    go_ret
    exact ⟨rfl, Below.refl _ _⟩
  have d1 : decide (1048576 < (host.size : Int)) = false := decide_eq_false (by omega)
  go_enter Try.func7, Try.ntmps7
  go_wp2_with fail
  refine (szDumpS_any _ a0 n c ds HS.out HO.out).mono ?_
  rintro e w1 ⟨v, rfl, hv1, hv2, hb⟩
  have HV2 := M.hl hv2
  have B1 := M.hl hb
  clear hv2 hb
  by_cases hneg : v < 0
  · go_wp2
    go_ret
    exact ⟨rfl, B1.out⟩
  have HL : Hid (n + M.dln ds ≤ 1048576) := by have := HV2.out (by omega); show _ ≤ _; omega
  clear HV2
  go_wp2_with fail
  refine (toDumpS_any w1 a0 n c ds (HS.out.below B1.out) HL.out).mono ?_
  rintro e w2 ⟨p1, ps, rfl, hp, hO, hb⟩
  have S2 := M.hl (hO.at_slice hp)
  have B2 := M.hl (M.sl B1.out hb)
  clear hp hO hb B1
  go_wp2_with fail
  refine (sMarksO_any w2 _ n n ds host S2.out HZ.out).mono ?_
  rintro e w3 ⟨v3, rfl, hO, hb⟩
  have HML : Hid ((M.marksO ds host).length ≤ 1048576) := by
    show _ ≤ _
    unfold M.marksO
    split
    · simp
    · have := M.marksOf_len ds host
      have := HL.out
      have := HN.out
      omega
  obtain ⟨ms, hms⟩ : ∃ ms, ms = M.marksO ds host := ⟨_, rfl⟩
  rw [← hms] at hO HML
  have HMS := M.hl hms
  obtain ⟨a3, c3, rfl, -⟩ := hO.mks
  have O3 := M.hl hO
  have I3 : Hid (∀ g, (Value.slice a3 ms.length c3).ownBlock = some g → w2.heap.size ≤ g ∧ g < w3.heap.size) := fun g hg => World.ownsRow.lt hO g hg
  have B3 := M.hl (M.sl B2.out hb)
  clear hO hb S2 B2 hms
  go_wp2_with fail
  refine (toDumpS_any w3 a0 n c ds (HS.out.below B3.out) HL.out).mono ?_
  rintro e w4 ⟨q1, ps4, rfl, hp, hO, hb⟩
  have S4 := M.hl (hO.at_slice hp)
  have O4 := M.hl hO
  have P4 := M.hl hp
  have Z34 := M.hl hb.size
  have B4 := M.hl (M.sl B3.out hb)
  have O34 := M.hl (O3.out.below hb)
  have ZB3 := M.hl B3.out.size
  clear hp hO hb O3
  go_wp2_with fail
  refine (iMarksO_any w4 _ n n ds host S4.out HZ.out).mono ?_
  rintro e w5 ⟨v5, rfl, hO, hb⟩
  rw [← HMS.out] at hO
  obtain ⟨a5, c5, rfl, -⟩ := hO.mks
  have O5 := M.hl hO
  have I5 : Hid (∀ g, (Value.slice a5 ms.length c5).ownBlock = some g → w4.heap.size ≤ g ∧ g < w5.heap.size) := fun g hg => World.ownsRow.lt hO g hg
  have Z45 := M.hl hb.size
  have B5 := M.hl (M.sl B4.out hb)
  have O35 := M.hl (O34.out.below hb)
  have O45 := M.hl (O4.out.below hb)
  clear hO hb O34 O4 S4
  have EQ : Hid (∀ W, M.OwnK W w2.heap.size (.slice a3 ms.length c3) ms → ∀ b x y, M.OwnK W b (.slice x ms.length y) ms → Calls Try.prog 27 #[.slice x ms.length y, .slice a3 ms.length c3] W fun e w' => e = .returned (.bool true) ∧ Below W.heap.size W w') := fun W h3 b x y h5 => eqMarkS_same W _ _ _ y _ c3 ms h5.at_sl h3.at_sl
  go_wp2_with fail
  refine (EQ.out w5 O35.out _ _ _ O5.out).mono ?_
  rintro e w6 ⟨rfl, hb⟩
  have O36 := M.hl (O35.out.below hb)
  have O46 := M.hl (O45.out.below hb)
  have O56 := M.hl (O5.out.below hb)
  have Z56 := M.hl hb.size
  have B6 := M.hl (M.sl B5.out hb)
  clear hb O35 O45 O5
  go_wp2_with fail
  refine (toDumpS_any w6 a0 n c ds (HS.out.below B6.out) HL.out).mono ?_
  rintro e w7 ⟨r1, rs, rfl, hp, hO, hb⟩
  have S7 := M.hl (hO.at_slice hp)
  have O37 := M.hl (O36.out.below hb)
  have O47 := M.hl (O46.out.below hb)
  have O57 := M.hl (O56.out.below hb)
  have Z67 := M.hl hb.size
  have B7 := M.hl (M.sl B6.out hb)
  clear hp hO hb O36 O46 O56
  go_wp2_with fail
  refine (eqDumpS_same w7 _ _ n n n n ds (O47.out.at_slice P4.out) S7.out).mono ?_
  rintro e w8 ⟨rfl, hb⟩
  have O38 := M.hl (O37.out.below hb)
  have O48 := M.hl (O47.out.below hb)
  have O58 := M.hl (O57.out.below hb)
  have Z78 := M.hl hb.size
  have B8 := M.hl (M.sl B7.out hb)
  clear hb O37 O47 O57 S7
  have hT4 : M.dend ps4 1 ≤ 30000000 := by
    have h1 := congrArg List.length P4.out
    rw [List.length_map] at h1
    have h2 := M.dpn_dln ps4
    rw [P4.out] at h2
    rw [M.dend_eq]
    have := HL.out
    have := HN.out
    omega
  have hPL4 : ∀ p ∈ ps4, p.1.ps.length ≤ 1048576 := fun p hp => by
    have hm : p.1 ∈ ds := by rw [← P4.out]; exact List.mem_map_of_mem hp
    obtain ⟨i, hi⟩ := List.getElem?_of_mem hm
    have := M.dln_mem hi
    have := HL.out
    omega
  have CM4 := M.hl (markDumpS_own w8 _ _ _ ps4 1 O48.out (Nat.le_refl _) hT4 hPL4)
  have CM5 : Hid (∀ W, M.OwnK W w4.heap.size (.slice a5 ms.length c5) ms → Calls Try.prog 30 #[.slice a5 ms.length c5, .int .i64 ((1 : Nat) : Int)] W fun e w' => e = .returned (.int .i64 ((1 + 3 * ms.length : Nat) : Int)) ∧ M.OwnK w' w4.heap.size (.slice a5 ms.length c5) (M.mkmarks ms.length 1) ∧ W.grownBy w' (Value.slice a5 ms.length c5).ownBlock) := fun W hW => markMarkS_own W _ _ ms 1 hW HML.out (Nat.le_refl _) (by omega)
  have CH5 : Hid (∀ W, M.OwnK W w4.heap.size (.slice a5 ms.length c5) (M.mkmarks ms.length 1) → Calls Try.prog 31 #[.slice a5 ms.length c5, .int .i64 ((1 : Nat) : Int)] W fun e w' => e = .returned (.int .i64 ((1 + 3 * ms.length : Nat) : Int)) ∧ W = w') := fun W hW => heldMarkS_own W _ _ ms.length 1 hW HML.out (Nat.le_refl _) (by omega)
  have hm6 := HML.out
  obtain ⟨N5, hN5⟩ : ∃ N5, N5 = 1 + 3 * ms.length := ⟨_, rfl⟩
  rw [← hN5] at CM5 CH5
  generalize M.dend ps4 1 = N4 at hT4 CM4
  have d4 : decide ((N4 : Int) < 0) = false := decide_eq_false (by omega)
  have d5 : decide ((N5 : Int) < 0) = false := decide_eq_false (by omega)
  have dq : ((N5 : Int) != (N5 : Int)) = false := by simp
  rw [show ((1 : Nat) : Int) = 1 from rfl] at CM4 CM5 CH5
  clear hPL4 hm6 hN5
  go_wp2_with fail
  refine CM4.out.mono ?_
  rintro e w9 ⟨rfl, -, hm⟩
  have O39 := M.hl (O38.out.mid hm (fun g hg => .inl (I3.out g hg).2))
  have O59 := M.hl (O58.out.mid hm (fun g hg => .inr (I5.out g hg).1))
  have Z89 := M.hl hm.size
  have B9 := M.hl (M.midB B8.out hm ZB3.out (Nat.le_trans Z34.out (Nat.le_trans Z45.out (Nat.le_trans Z56.out (Nat.le_trans Z67.out Z78.out)))))
  clear hm O38 O48 O58 CM4
  go_wp2_with fail
  refine (EQ.out w9 O39.out _ _ _ O59.out).mono ?_
  rintro e w10 ⟨rfl, hb⟩
  have O310 := M.hl (O39.out.below hb)
  have O510 := M.hl (O59.out.below hb)
  have Z910 := M.hl hb.size
  have B10 := M.hl (M.sl B9.out hb)
  clear hb O39 O59
  go_wp2_with fail
  refine (CM5.out w10 O510.out).mono ?_
  rintro e w11 ⟨rfl, hO, hg⟩
  have hm := M.mid_own hg I5.out
  have O511 := M.hl hO
  have O311 := M.hl (O310.out.mid hm (fun g hg => .inl (by have := (I3.out g hg).2; have := Z34.out; omega)))
  have B11 := M.hl (M.midB B10.out hm (Nat.le_trans ZB3.out Z34.out) (Nat.le_trans Z45.out (Nat.le_trans Z56.out (Nat.le_trans Z67.out (Nat.le_trans Z78.out (Nat.le_trans Z89.out Z910.out))))))
  clear hO hg hm O310 O510
  go_wp2_with fail
  refine (CH5.out w11 O511.out).mono ?_
  rintro e w12 ⟨rfl, rfl⟩
  go_wp2_with fail
  refine (toDumpS_any w11 a0 n c ds (HS.out.below B11.out) HL.out).mono ?_
  rintro e w13 ⟨r13, rs13, rfl, hp, hO, hb⟩
  have S13 := M.hl (hO.at_slice hp)
  have O513 := M.hl (O511.out.below hb)
  have O313 := M.hl (O311.out.below hb)
  have B13 := M.hl (M.sl B11.out hb)
  clear hp hO hb O511 O311
  go_wp2_with fail
  refine (iMarksO_any w13 _ n n ds host S13.out HZ.out).mono ?_
  rintro e w14 ⟨v14, rfl, hO, hb⟩
  rw [← HMS.out] at hO
  obtain ⟨a14, c14, rfl, -⟩ := hO.mks
  have O14 := M.hl hO
  have O514 := M.hl (O513.out.below hb)
  have O314 := M.hl (O313.out.below hb)
  have B14 := M.hl (M.sl B13.out hb)
  clear hO hb O513 O313 S13
  go_wp2_with fail
  refine (EQ.out w14 O314.out _ _ _ O14.out).mono ?_
  rintro e w15 ⟨rfl, hb⟩
  have O515 := M.hl (O514.out.below hb)
  have B15 := M.hl (M.sl B14.out hb)
  clear hb O514 O314
  go_wp2_with fail
  refine (CH5.out w15 O515.out).mono ?_
  rintro e w16 ⟨rfl, rfl⟩
  go_wp2
  go_ret
  exact ⟨rfl, B15.out⟩
end Go.Proofs.Ytcoppfmigpdglaa
