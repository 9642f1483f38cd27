/-
  How the specification reads a dump: the walk.
-/
import Derived.Test.YtpokcbcffijheaaSDReadBase
import Derived.Deep.RegionHeldLaw
namespace Go.Proofs.Ytpokcbcffijheaa
open Go.RowKit

theorem M.rok_pts (t : ByteArray) : ∃ (x1 : Int) (hs : ByteArray) (x2 x3 x4 x5 x6 x7 n : Int) (s1 s2 s3 s4 s5 s6 s7 s8 s9 : Option Nat), M.rnum t (some 0) = (x1, s1) ∧ M.rtxt t s1 = (hs, s2) ∧ M.rnum t s2 = (x2, s3) ∧ M.rnum t s3 = (x3, s4) ∧ M.rnum t s4 = (x4, s5) ∧ M.rnum t s5 = (x5, s6) ∧ M.rnum t s6 = (x6, s7) ∧ M.rnum t s7 = (x7, s8) ∧ M.rnum t s8 = (n, s9) ∧
    M.rok t = (decide (0 ≤ n ∧ n ≤ 8) && decide ((M.rparts t n.toNat s9).2 = some t.size) && M.dumpR ⟨x1, hs, x2, x3, x4, x5, x6, x7, (M.rparts t n.toNat s9).1⟩) ∧ (0 ≤ n ∧ n ≤ 8 → (M.rdump t).1 = ⟨x1, hs, x2, x3, x4, x5, x6, x7, (M.rparts t n.toNat s9).1⟩) := by
  obtain ⟨x1, hs, x2, x3, x4, x5, x6, x7, s1, s2, s3, s4, s5, s6, s7, s8, e1, e2, e3, e4, e5, e6, e7, e8, e9⟩ := M.rdump_pts t
  obtain ⟨n, s9, en⟩ : ∃ n s9, M.rnum t s8 = (n, s9) := ⟨_, _, rfl⟩
  have hh : (M.rhead t).2.1 = n := by rw [M.rhead_eq]; simp only [e1, e2, e3, e4, e5, e6, e7, e8, en]
  have hp : M.rpts t s8 = if 0 ≤ n ∧ n ≤ 8 then M.rparts t n.toNat s9 else ([], s9) := by unfold M.rpts; rw [en]
  refine ⟨x1, hs, x2, x3, x4, x5, x6, x7, n, s1, s2, s3, s4, s5, s6, s7, s8, s9, e1, e2, e3, e4, e5, e6, e7, e8, en, ?_, ?_⟩
  · unfold M.rok
    rw [hh, e9, hp]
    by_cases hc : 0 ≤ n ∧ n ≤ 8
    · rw [if_pos hc]
    · rw [decide_eq_false hc]; rfl
  · intro hc
    rw [e9, hp, if_pos hc]

set_option maxRecDepth 100000 in
set_option maxHeartbeats 3200000 in
theorem sL08Read_any (w : World) (t : ByteArray) (hz : t.size ≤ 20000) :
    Calls Try.prog 49 #[.string t] w fun e w' => ∃ d v, e = .returned (.tuple #[M.dval d v, .bool (M.rok t)]) ∧ (∃ a n c, v = .slice a n c) ∧ (M.rok t = true → d = (M.rdump t).1 ∧ M.OwnPt w' w.heap.size v d.ps) ∧ Below w.heap.size w w' := by
  obtain ⟨x1, hs, x2, x3, x4, x5, x6, x7, n, s1, s2, s3, s4, s5, s6, s7, s8, s9, e1, e2, e3, e4, e5, e6, e7, e8, e9, hok, hrd⟩ := M.rok_pts t
  have HOK := M.hl hok
  have HRD := M.hl hrd
  have hz5 : t.size ≤ 9223372036854775807 := by omega
  have L0 : ∀ a, some 0 = some a → a ≤ t.size := fun a e => by cases e; omega
  have C1 : Hid (∀ W H, M.SdB W H t (some 0) → Calls Try.prog 76 #[.pointer (some ⟨H, 0, none⟩)] W fun e w' => e = .returned (.int .i64 x1) ∧ M.SdB w' H t s1 ∧ M.Mid H (H + 1) W w') := fun W H hW => by have := sDRNum_any W H t (some 0) hz L0 hW; rwa [e1] at this
  have L1 : ∀ a, s1 = some a → a ≤ t.size := fun a e => M.rnum_le (st := (some 0)) (by rw [e1]; exact e)
  have C2 : Hid (∀ W H, M.SdB W H t s1 → Calls Try.prog 77 #[.pointer (some ⟨H, 0, none⟩)] W fun e w' => e = .returned (.string hs) ∧ M.SdB w' H t s2 ∧ M.Mid H (H + 1) W w') := fun W H hW => by have := sDRText_any W H t s1 hz L1 hW; rwa [e2] at this
  have L2 : ∀ a, s2 = some a → a ≤ t.size := fun a e => M.rtxt_le (st := s1) (by rw [e2]; exact e)
  have C3 : Hid (∀ W H, M.SdB W H t s2 → Calls Try.prog 76 #[.pointer (some ⟨H, 0, none⟩)] W fun e w' => e = .returned (.int .i64 x2) ∧ M.SdB w' H t s3 ∧ M.Mid H (H + 1) W w') := fun W H hW => by have := sDRNum_any W H t s2 hz L2 hW; rwa [e3] at this
  have L3 : ∀ a, s3 = some a → a ≤ t.size := fun a e => M.rnum_le (st := s2) (by rw [e3]; exact e)
  have C4 : Hid (∀ W H, M.SdB W H t s3 → Calls Try.prog 76 #[.pointer (some ⟨H, 0, none⟩)] W fun e w' => e = .returned (.int .i64 x3) ∧ M.SdB w' H t s4 ∧ M.Mid H (H + 1) W w') := fun W H hW => by have := sDRNum_any W H t s3 hz L3 hW; rwa [e4] at this
  have L4 : ∀ a, s4 = some a → a ≤ t.size := fun a e => M.rnum_le (st := s3) (by rw [e4]; exact e)
  have C5 : Hid (∀ W H, M.SdB W H t s4 → Calls Try.prog 76 #[.pointer (some ⟨H, 0, none⟩)] W fun e w' => e = .returned (.int .i64 x4) ∧ M.SdB w' H t s5 ∧ M.Mid H (H + 1) W w') := fun W H hW => by have := sDRNum_any W H t s4 hz L4 hW; rwa [e5] at this
  have L5 : ∀ a, s5 = some a → a ≤ t.size := fun a e => M.rnum_le (st := s4) (by rw [e5]; exact e)
  have C6 : Hid (∀ W H, M.SdB W H t s5 → Calls Try.prog 76 #[.pointer (some ⟨H, 0, none⟩)] W fun e w' => e = .returned (.int .i64 x5) ∧ M.SdB w' H t s6 ∧ M.Mid H (H + 1) W w') := fun W H hW => by have := sDRNum_any W H t s5 hz L5 hW; rwa [e6] at this
  have L6 : ∀ a, s6 = some a → a ≤ t.size := fun a e => M.rnum_le (st := s5) (by rw [e6]; exact e)
  have C7 : Hid (∀ W H, M.SdB W H t s6 → Calls Try.prog 76 #[.pointer (some ⟨H, 0, none⟩)] W fun e w' => e = .returned (.int .i64 x6) ∧ M.SdB w' H t s7 ∧ M.Mid H (H + 1) W w') := fun W H hW => by have := sDRNum_any W H t s6 hz L6 hW; rwa [e7] at this
  have L7 : ∀ a, s7 = some a → a ≤ t.size := fun a e => M.rnum_le (st := s6) (by rw [e7]; exact e)
  have C8 : Hid (∀ W H, M.SdB W H t s7 → Calls Try.prog 76 #[.pointer (some ⟨H, 0, none⟩)] W fun e w' => e = .returned (.int .i64 x7) ∧ M.SdB w' H t s8 ∧ M.Mid H (H + 1) W w') := fun W H hW => by have := sDRNum_any W H t s7 hz L7 hW; rwa [e8] at this
  have L8 : ∀ a, s8 = some a → a ≤ t.size := fun a e => M.rnum_le (st := s7) (by rw [e8]; exact e)
  have C9 : Hid (∀ W H, M.SdB W H t s8 → Calls Try.prog 76 #[.pointer (some ⟨H, 0, none⟩)] W fun e w' => e = .returned (.int .i64 n) ∧ M.SdB w' H t s9 ∧ M.Mid H (H + 1) W w') := fun W H hW => by have := sDRNum_any W H t s8 hz L8 hW; rwa [e9] at this
  have L9 : ∀ a, s9 = some a → a ≤ t.size := fun a e => M.rnum_le (st := s8) (by rw [e9]; exact e)
  have h64 := M.rnum_i64 t s8
  rw [e9] at h64
  simp only at h64
  have HHZ : Hid (hs.size ≤ 20000) := by have := M.rtxt_size t s1; rw [e2] at this; exact this
  have HL9 := M.hl L9
  clear e1 e2 e3 e4 e5 e6 e7 e8 e9 L0 L1 L2 L3 L4 L5 L6 L7 L8 L9 hok hrd
  obtain ⟨i0, hi, hz0, hz1, hz2⟩ := info_parts Try.infoPt
  obtain ⟨W0, hW0⟩ : ∃ W0, W0 = (w.alloc (.cells #[.int .i64 0, .string ⟨#[]⟩, .int .i64 0, .int .i64 0, .int .i64 0, .int .i64 0, .int .i64 0, .int .i64 0, .slice none 0 0] 25)).alloc (.cells #[.string t, .int .i64 0, .bool false] 102) := ⟨_, rfl⟩
  obtain ⟨t0, t1⟩ := M.thr2 w (.cells #[.int .i64 0, .string ⟨#[]⟩, .int .i64 0, .int .i64 0, .int .i64 0, .int .i64 0, .int .i64 0, .int .i64 0, .slice none 0 0] 25) (.cells #[.string t, .int .i64 0, .bool false] 102)
  rw [← hW0] at t0 t1
  have V0 := M.hl t0
  have R0 : Hid (M.SdB W0 (w.heap.size + 1) t (some 0)) := t1
  have B0 : Hid (Below w.heap.size w W0) := by rw [hW0]; exact ((Below.refl _ _).alloc (Nat.le_refl _) _).alloc (by simp) _
  have Z0 : Hid (w.heap.size + 1 + 1 = W0.heap.size) := by rw [hW0]; show _ = _; simp
  have HW0 := M.hl hW0
  clear t0 t1 hW0
  go_enter Try.func49, Try.ntmps49
  go_wp2_with fail
  rw [← HW0.out]
  refine (C1.out W0 _ R0.out).mono ?_
  rintro e W1 ⟨rfl, hR, hm⟩
  have R1 := M.hl hR
  have V1 := M.hl (M.keepM9 V0.out hm (.inl (Nat.lt_succ_self _)))
  have B1 : Hid (Below w.heap.size w W1) := B0.out.trans ((hm.below (by have := Z0.out; omega)).mono (Nat.le_succ _))
  have Z1 : Hid (w.heap.size + 1 < W1.heap.size) := by have := Z0.out; have := hm.size; show _ < _; omega
  clear hR hm C1 R0 V0 B0
  go_wp2_with fail
  obtain ⟨D, hD⟩ : ∃ D, D = W1.heap.size := ⟨_, rfl⟩
  obtain ⟨U1, hU1⟩ : ∃ U1, U1 = W1.alloc (.cells #[.int .i64 x1, .string ⟨#[]⟩, .int .i64 0, .int .i64 0, .int .i64 0, .int .i64 0, .int .i64 0, .int .i64 0, .slice none 0 0] 25) := ⟨_, rfl⟩
  rw [← hU1, ← hD]
  have G1 : Hid (M.LR w U1 D t s1 #[.int .i64 x1, .string ⟨#[]⟩, .int .i64 0, .int .i64 0, .int .i64 0, .int .i64 0, .int .i64 0, .int .i64 0, .slice none 0 0]) := by
    subst hU1
    subst hD
    exact ⟨M.sdB_blk R1.out (heap_alloc_old _ _ (M.sdB_lt R1.out)), heap_alloc_new _ _, (heap_alloc_old _ _ (Array.getElem?_eq_some_iff.1 V1.out).1).trans V1.out, B1.out.alloc B1.out.size _, Z1.out⟩
  clear hU1 hD V1 R1 B1 Z1
  refine (C2.out U1 _ G1.out.rd).mono ?_
  rintro e W2 ⟨rfl, hR, hm⟩
  have F2 := M.hl (G1.out.call hR hm)
  have cc := M.bk_cell F2.out.dd 1 (.string ⟨#[]⟩) rfl
  have ff := M.bk_free F2.out.dd 1
  clear hR hm C2 G1
  go_wp2_with fail
  obtain ⟨U2, hU⟩ : ∃ U2, U2 = W2.setCell ⟨D, 1, none⟩ (.string hs) := ⟨_, rfl⟩
  rw [← hU]
  have G2 : Hid (M.LR w U2 D t s2 #[.int .i64 x1, .string hs, .int .i64 0, .int .i64 0, .int .i64 0, .int .i64 0, .int .i64 0, .int .i64 0, .slice none 0 0]) := F2.out.st hU (by rw [hU]; exact M.st9_1 F2.out.dd _)
  clear hU cc ff F2
  refine (C3.out U2 _ G2.out.rd).mono ?_
  rintro e W3 ⟨rfl, hR, hm⟩
  have F3 := M.hl (G2.out.call hR hm)
  have cc := M.bk_cell F3.out.dd 2 (.int .i64 0) rfl
  have ff := M.bk_free F3.out.dd 2
  clear hR hm C3 G2
  go_wp2_with fail
  obtain ⟨U3, hU⟩ : ∃ U3, U3 = W3.setCell ⟨D, 2, none⟩ (.int .i64 x2) := ⟨_, rfl⟩
  rw [← hU]
  have G3 : Hid (M.LR w U3 D t s3 #[.int .i64 x1, .string hs, .int .i64 x2, .int .i64 0, .int .i64 0, .int .i64 0, .int .i64 0, .int .i64 0, .slice none 0 0]) := F3.out.st hU (by rw [hU]; exact M.st9_2 F3.out.dd _)
  clear hU cc ff F3
  refine (C4.out U3 _ G3.out.rd).mono ?_
  rintro e W4 ⟨rfl, hR, hm⟩
  have F4 := M.hl (G3.out.call hR hm)
  have cc := M.bk_cell F4.out.dd 3 (.int .i64 0) rfl
  have ff := M.bk_free F4.out.dd 3
  clear hR hm C4 G3
  go_wp2_with fail
  obtain ⟨U4, hU⟩ : ∃ U4, U4 = W4.setCell ⟨D, 3, none⟩ (.int .i64 x3) := ⟨_, rfl⟩
  rw [← hU]
  have G4 : Hid (M.LR w U4 D t s4 #[.int .i64 x1, .string hs, .int .i64 x2, .int .i64 x3, .int .i64 0, .int .i64 0, .int .i64 0, .int .i64 0, .slice none 0 0]) := F4.out.st hU (by rw [hU]; exact M.st9_3 F4.out.dd _)
  clear hU cc ff F4
  refine (C5.out U4 _ G4.out.rd).mono ?_
  rintro e W5 ⟨rfl, hR, hm⟩
  have F5 := M.hl (G4.out.call hR hm)
  have cc := M.bk_cell F5.out.dd 4 (.int .i64 0) rfl
  have ff := M.bk_free F5.out.dd 4
  clear hR hm C5 G4
  go_wp2_with fail
  obtain ⟨U5, hU⟩ : ∃ U5, U5 = W5.setCell ⟨D, 4, none⟩ (.int .i64 x4) := ⟨_, rfl⟩
  rw [← hU]
  have G5 : Hid (M.LR w U5 D t s5 #[.int .i64 x1, .string hs, .int .i64 x2, .int .i64 x3, .int .i64 x4, .int .i64 0, .int .i64 0, .int .i64 0, .slice none 0 0]) := F5.out.st hU (by rw [hU]; exact M.st9_4 F5.out.dd _)
  clear hU cc ff F5
  refine (C6.out U5 _ G5.out.rd).mono ?_
  rintro e W6 ⟨rfl, hR, hm⟩
  have F6 := M.hl (G5.out.call hR hm)
  have cc := M.bk_cell F6.out.dd 5 (.int .i64 0) rfl
  have ff := M.bk_free F6.out.dd 5
  clear hR hm C6 G5
  go_wp2_with fail
  obtain ⟨U6, hU⟩ : ∃ U6, U6 = W6.setCell ⟨D, 5, none⟩ (.int .i64 x5) := ⟨_, rfl⟩
  rw [← hU]
  have G6 : Hid (M.LR w U6 D t s6 #[.int .i64 x1, .string hs, .int .i64 x2, .int .i64 x3, .int .i64 x4, .int .i64 x5, .int .i64 0, .int .i64 0, .slice none 0 0]) := F6.out.st hU (by rw [hU]; exact M.st9_5 F6.out.dd _)
  clear hU cc ff F6
  refine (C7.out U6 _ G6.out.rd).mono ?_
  rintro e W7 ⟨rfl, hR, hm⟩
  have F7 := M.hl (G6.out.call hR hm)
  have cc := M.bk_cell F7.out.dd 6 (.int .i64 0) rfl
  have ff := M.bk_free F7.out.dd 6
  clear hR hm C7 G6
  go_wp2_with fail
  obtain ⟨U7, hU⟩ : ∃ U7, U7 = W7.setCell ⟨D, 6, none⟩ (.int .i64 x6) := ⟨_, rfl⟩
  rw [← hU]
  have G7 : Hid (M.LR w U7 D t s7 #[.int .i64 x1, .string hs, .int .i64 x2, .int .i64 x3, .int .i64 x4, .int .i64 x5, .int .i64 x6, .int .i64 0, .slice none 0 0]) := F7.out.st hU (by rw [hU]; exact M.st9_6 F7.out.dd _)
  clear hU cc ff F7
  refine (C8.out U7 _ G7.out.rd).mono ?_
  rintro e W8 ⟨rfl, hR, hm⟩
  have F8 := M.hl (G7.out.call hR hm)
  have cc := M.bk_cell F8.out.dd 7 (.int .i64 0) rfl
  have ff := M.bk_free F8.out.dd 7
  clear hR hm C8 G7
  go_wp2_with fail
  obtain ⟨U8, hU⟩ : ∃ U8, U8 = W8.setCell ⟨D, 7, none⟩ (.int .i64 x7) := ⟨_, rfl⟩
  rw [← hU]
  have G8 : Hid (M.LR w U8 D t s8 #[.int .i64 x1, .string hs, .int .i64 x2, .int .i64 x3, .int .i64 x4, .int .i64 x5, .int .i64 x6, .int .i64 x7, .slice none 0 0]) := F8.out.st hU (by rw [hU]; exact M.st9_7 F8.out.dd _)
  clear hU cc ff F8
  refine (C9.out U8 _ G8.out.rd).mono ?_
  rintro e W9 ⟨rfl, hR, hm⟩
  have G9 := M.hl (G8.out.call hR hm)
  clear hR hm C9 G8
  have CN : Hid (∀ W H s, M.SdB W H t s → (∀ a, s = some a → a ≤ t.size) → Calls Try.prog 76 #[.pointer (some ⟨H, 0, none⟩)] W fun e w' => e = .returned (.int .i64 (M.rnum t s).1) ∧ M.SdB w' H t (M.rnum t s).2 ∧ M.Mid H (H + 1) W w') := fun W H s hW hb => sDRNum_any W H t s hz hb hW
  go_wp2
  go_loopw [7] (fun i wr => ∃ (k : Nat) (ps : List M.PartD) (va : Option Addr) (vc : Nat), i = .int .i64 k ∧ k ≤ 9 ∧ ps.length ≤ k ∧ Hid (ps.length = k) ∧ Hid (k = 0 ∨ (k : Int) ≤ n) ∧ Hid (ps = (M.rparts t k s9).1) ∧ Hid (M.OwnPt wr (D + 1) (.slice va ps.length vc) ps) ∧ Hid (M.LR w wr D t (M.rparts t k s9).2 #[.int .i64 x1, .string hs, .int .i64 x2, .int .i64 x3, .int .i64 x4, .int .i64 x5, .int .i64 x6, .int .i64 x7, .slice va ps.length vc])) (fun i _ => 9 - (intOf i).toNat)
  case atStart => exact ⟨0, [], none, 0, rfl, by omega, Nat.le_refl _, rfl, .inl rfl, rfl, M.OwnPt.nil _ _, G9⟩
  case round =>
    obtain ⟨k, ps, va, vc, rfl, hk9, hpl, HPL, HKN, HP, HO, HG⟩ := hrel
    obtain ⟨sk, hsk⟩ : ∃ sk, sk = (M.rparts t k s9).2 := ⟨_, rfl⟩
    have HSK := M.hl hsk
    rw [← hsk] at HG
    have HLE : Hid (∀ a, sk = some a → a ≤ t.size) := by rw [hsk]; exact M.rparts_le k HL9.out
    clear hsk
    by_cases hcont : (k : Int) < n ∧ k ≤ 8 ∧ sk ≠ none
    · obtain ⟨h1, h2, h3⟩ := hcont
      obtain ⟨b, rfl⟩ := Option.ne_none_iff_exists'.1 h3
      have cb : wr.cell? ⟨w.heap.size + 1, 2, none⟩ = some (.bool false) := by
        have hh : wr.heap[w.heap.size + 1]? = some (.cells #[.string t, .int .i64 (b : Int), .bool false] 102 (0, 0)) := HG.out.rd
        exact M.bk_cell hh 2 _ rfl
      have d1 : decide ((k : Int) < n) = true := decide_eq_true h1
      have d2 : decide (k ≤ 8) = true := decide_eq_true h2
      have d3 : decide ((k : Int) ≤ 8) = true := decide_eq_true (by omega)
      obtain ⟨q, sa, hqa⟩ : ∃ q sa, M.rnum t (some b) = (q, sa) := ⟨_, _, rfl⟩
      obtain ⟨l, sb, hqb⟩ : ∃ l sb, M.rnum t sa = (l, sb) := ⟨_, _, rfl⟩
      obtain ⟨s, sc, hqc⟩ : ∃ s sc, M.rnum t sb = (s, sc) := ⟨_, _, rfl⟩
      obtain ⟨z, sd, hqd⟩ : ∃ z sd, M.rnum t sc = (z, sd) := ⟨_, _, rfl⟩
      have LA : Hid (∀ a, sa = some a → a ≤ t.size) := fun a e => M.rnum_le (st := some b) (by rw [hqa]; exact e)
      have LB : Hid (∀ a, sb = some a → a ≤ t.size) := fun a e => M.rnum_le (st := sa) (by rw [hqb]; exact e)
      have LC : Hid (∀ a, sc = some a → a ≤ t.size) := fun a e => M.rnum_le (st := sb) (by rw [hqc]; exact e)
      have CA : Hid (∀ W H, M.SdB W H t (some b) → Calls Try.prog 76 #[.pointer (some ⟨H, 0, none⟩)] W fun e w' => e = .returned (.int .i64 q) ∧ M.SdB w' H t sa ∧ M.Mid H (H + 1) W w') := fun W H hW => by have := CN.out W H (some b) hW HLE.out; rwa [hqa] at this
      have CB : Hid (∀ W H, M.SdB W H t sa → Calls Try.prog 76 #[.pointer (some ⟨H, 0, none⟩)] W fun e w' => e = .returned (.int .i64 l) ∧ M.SdB w' H t sb ∧ M.Mid H (H + 1) W w') := fun W H hW => by have := CN.out W H sa hW LA.out; rwa [hqb] at this
      have CC : Hid (∀ W H, M.SdB W H t sb → Calls Try.prog 76 #[.pointer (some ⟨H, 0, none⟩)] W fun e w' => e = .returned (.int .i64 s) ∧ M.SdB w' H t sc ∧ M.Mid H (H + 1) W w') := fun W H hW => by have := CN.out W H sb hW LB.out; rwa [hqc] at this
      have CD : Hid (∀ W H, M.SdB W H t sc → Calls Try.prog 76 #[.pointer (some ⟨H, 0, none⟩)] W fun e w' => e = .returned (.int .i64 z) ∧ M.SdB w' H t sd ∧ M.Mid H (H + 1) W w') := fun W H hW => by have := CN.out W H sc hW LC.out; rwa [hqd] at this
      have HNX : Hid (M.rparts t (k + 1) s9 = ((M.rparts t k s9).1 ++ [⟨q, l, s, z⟩], sd)) := by
        show _ = _
        show ((M.rparts t k s9).1 ++ [(M.rpart t (M.rparts t k s9).2).1], (M.rpart t (M.rparts t k s9).2).2) = _
        rw [← HSK.out]
        unfold M.rpart
        simp only [hqa, hqb, hqc, hqd]
      have HPX : Hid (ps ++ [⟨q, l, s, z⟩] = (M.rparts t (k + 1) s9).1) := by show _ = _; rw [HNX.out, HP.out]
      have HKX : Hid ((k : Int) + 1 ≤ n) := by show _ ≤ _; omega
      clear hqa hqb hqc hqd h3
      go_wp2_with fail
      refine (CA.out wr _ HG.out.rd).mono ?_
      rintro e wa ⟨rfl, hR, hm⟩
      have Ga := M.hl (HG.out.call hR hm)
      have Oa := M.hl (HO.out.mid hm (fun g hg => .inr (by have := (World.ownsRow.lt HO.out g hg).1; have := HG.out.far; omega)))
      clear hR hm CA HG HO cb
      go_wp2_with fail
      obtain ⟨P, hP⟩ : ∃ P, P = wa.heap.size := ⟨_, rfl⟩
      obtain ⟨ua, hua⟩ : ∃ ua, ua = wa.alloc (.cells #[.int .i64 q, .int .i64 0, .int .i64 0, .int .i64 0] 62) := ⟨_, rfl⟩
      rw [← hua, ← hP]
      have Pa : Hid (ua.heap[P]? = some (.cells #[.int .i64 q, .int .i64 0, .int .i64 0, .int .i64 0] 62 (0, 0))) := by rw [hua, hP]; exact heap_alloc_new _ _
      have Ha : Hid (M.LR w ua D t sa #[.int .i64 x1, .string hs, .int .i64 x2, .int .i64 x3, .int .i64 x4, .int .i64 x5, .int .i64 x6, .int .i64 x7, .slice va ps.length vc]) := by rw [hua]; exact Ga.out.alloc _
      have HDP : Hid (D < P) := by rw [hP]; exact (Array.getElem?_eq_some_iff.1 Ga.out.dd).1
      have Qa : Hid (M.OwnPt ua (D + 1) (.slice va ps.length vc) ps) := by rw [hua]; exact Oa.out.below ((Below.refl _ _).alloc (Nat.le_refl _) _)
      have HNE : Hid (∀ g, (Value.slice va ps.length vc).ownBlock = some g → g ≠ P) := fun g hg e => by have := (World.ownsRow.lt Oa.out g hg).2; omega
      clear hua hP Ga Oa
      refine (CB.out ua _ Ha.out.rd).mono ?_
      rintro e wb ⟨rfl, hR, hm⟩
      have Gb := M.hl (Ha.out.call hR hm)
      have Ob := M.hl (Qa.out.mid hm (fun g hg => .inr (by have := (World.ownsRow.lt Qa.out g hg).1; have := Ha.out.far; omega)))
      have Pb := M.hl (M.keepM9 Pa.out hm (.inr (by have := HDP.out; have := Ha.out.far; omega)))
      have cp := M.bk_cell Pb.out 1 (.int .i64 0) rfl
      have fp := M.bk_free Pb.out 1
      clear hR hm CB Ha Qa Pa
      go_wp2_with fail
      obtain ⟨ub, hU⟩ : ∃ ub, ub = wb.setCell ⟨P, 1, none⟩ (.int .i64 l) := ⟨_, rfl⟩
      rw [← hU]
      have Hb : Hid (M.LR w ub D t sb #[.int .i64 x1, .string hs, .int .i64 x2, .int .i64 x3, .int .i64 x4, .int .i64 x5, .int .i64 x6, .int .i64 x7, .slice va ps.length vc]) := by rw [hU]; exact Gb.out.put HDP.out _ _
      have Qb : Hid (M.OwnPt ub (D + 1) (.slice va ps.length vc) ps) := by rw [hU]; exact Ob.out.setAt HNE.out _ _
      have Rb : Hid (ub.heap[P]? = some (.cells #[.int .i64 q, .int .i64 l, .int .i64 0, .int .i64 0] 62 (0, 0))) := by rw [hU]; exact M.st4_1 Pb.out _
      clear hU cp fp Gb Ob Pb
      refine (CC.out ub _ Hb.out.rd).mono ?_
      rintro e wc ⟨rfl, hR, hm⟩
      have Gc := M.hl (Hb.out.call hR hm)
      have Oc := M.hl (Qb.out.mid hm (fun g hg => .inr (by have := (World.ownsRow.lt Qb.out g hg).1; have := Hb.out.far; omega)))
      have Pc := M.hl (M.keepM9 Rb.out hm (.inr (by have := HDP.out; have := Hb.out.far; omega)))
      have cp := M.bk_cell Pc.out 2 (.int .i64 0) rfl
      have fp := M.bk_free Pc.out 2
      clear hR hm CC Hb Qb Rb
      go_wp2_with fail
      obtain ⟨uc, hU⟩ : ∃ uc, uc = wc.setCell ⟨P, 2, none⟩ (.int .i64 s) := ⟨_, rfl⟩
      rw [← hU]
      have Hc : Hid (M.LR w uc D t sc #[.int .i64 x1, .string hs, .int .i64 x2, .int .i64 x3, .int .i64 x4, .int .i64 x5, .int .i64 x6, .int .i64 x7, .slice va ps.length vc]) := by rw [hU]; exact Gc.out.put HDP.out _ _
      have Qc : Hid (M.OwnPt uc (D + 1) (.slice va ps.length vc) ps) := by rw [hU]; exact Oc.out.setAt HNE.out _ _
      have Rc : Hid (uc.heap[P]? = some (.cells #[.int .i64 q, .int .i64 l, .int .i64 s, .int .i64 0] 62 (0, 0))) := by rw [hU]; exact M.st4_2 Pc.out _
      clear hU cp fp Gc Oc Pc
      refine (CD.out uc _ Hc.out.rd).mono ?_
      rintro e wd ⟨rfl, hR, hm⟩
      have Gd := M.hl (Hc.out.call hR hm)
      have Od := M.hl (Qc.out.mid hm (fun g hg => .inr (by have := (World.ownsRow.lt Qc.out g hg).1; have := Hc.out.far; omega)))
      have Pd := M.hl (M.keepM9 Rc.out hm (.inr (by have := HDP.out; have := Hc.out.far; omega)))
      have cp := M.bk_cell Pd.out 3 (.int .i64 0) rfl
      have fp := M.bk_free Pd.out 3
      clear hR hm CD Hc Qc Rc
      have c8 := M.bk_cell Gd.out.dd 8 (.slice va ps.length vc) rfl
      have p0 := M.bk_cell Pd.out 0 (.int .i64 q) rfl
      have p1 := M.bk_cell Pd.out 1 (.int .i64 l) rfl
      have p2 := M.bk_cell Pd.out 2 (.int .i64 s) rfl
      have hdp := HDP.out
      have hne : ¬ (D = P) := by omega
      have hne2 : ¬ (P = D) := by omega
      obtain ⟨ud, hU⟩ : ∃ ud, ud = wd.setCell ⟨P, 3, none⟩ (.int .i64 z) := ⟨_, rfl⟩
      have Hd : Hid (M.LR w ud D t sd #[.int .i64 x1, .string hs, .int .i64 x2, .int .i64 x3, .int .i64 x4, .int .i64 x5, .int .i64 x6, .int .i64 x7, .slice va ps.length vc]) := by rw [hU]; exact Gd.out.put HDP.out _ _
      have hown : M.OwnPt ud (D + 1) (.slice va ps.length vc) ps := by rw [hU]; exact Od.out.setAt HNE.out _ _
      have hsz : ud.heap.size = wd.heap.size := by rw [hU]; simp [World.setCell]
      have HSZ := M.hl hsz
      have HU := M.hl hU
      unfold M.OwnPt at hown
      clear hU hsz hdp
      go_wp2_with (at_builtin; rw [← HU.out, ← HSZ.out]; refine wpList_append_own _ rfl (.tmp 67) (.tmp 69) 23 rfl (D + 1) 62 i0 (.agg #[.int .i64 0, .int .i64 0, .int .i64 0, .int .i64 0]) 4 32 Try.underlying23 hi hz0 hz1 hz2 rfl (by decide) _ _ _ rfl (World.ownsRow.alloc hown _) ⟨ud.heap.size, 0, none⟩ 1 1 (M.ptcells ⟨q, l, s, z⟩) rfl rfl (M.four_nt _ ⟨q, l, s, z⟩ _) ?c2 ?c3 ?c4 ?c5 ?_)
      case c2 => exact M.oneCell4t _
      case c3 => unfold maxLen; omega
      case c4 => have := HSZ.out; have := Hd.out.far; have := (Array.getElem?_eq_some_iff.1 Hd.out.dd).1; omega
      case c5 => first | omega | (simp; have := (Array.getElem?_eq_some_iff.1 Hd.out.dd).1; omega)
      intro v' w6 hown' hgrow _
      have HO6 : Hid (M.OwnPt w6 (D + 1) v' (ps ++ [⟨q, l, s, z⟩])) := M.OwnPt.more hown'
      have hgall : ud.grownBy w6 _ := ((World.grownBy_alloc ud _ none).but _).trans hgrow
      have H6 := M.hl (Hd.out.grown hgall (fun g e => by have := (World.ownsRow.lt hown g e).1; omega))
      have hl6 : (ps ++ [(⟨q, l, s, z⟩ : M.PartD)]).length = ps.length + 1 := by rw [List.length_append]; rfl
      obtain ⟨va2, vc2, hv2⟩ := HO6.out.len
      subst hv2
      clear hown hown' hgrow hgall c8 p0 p1 p2 cp fp
      have c8 := M.bk_cell H6.out.dd 8 (.slice va ps.length vc) rfl
      have f8 := M.bk_free H6.out.dd 8
      have HS6 := M.hl hl6
      clear hl6
      go_wp2
      go_roundw
      case rel =>
        refine ⟨k + 1, ps ++ [⟨q, l, s, z⟩], va2, vc2, by go_num, by omega, by rw [HS6.out]; omega, by show _ = _; rw [HS6.out, HPL.out], .inr (by have := HKX.out; show ((k + 1 : Nat) : Int) ≤ n; omega), HPX, ?_, ?_⟩
        · exact HO6.out.setAt (fun g hg => by have := (World.ownsRow.lt HO6.out g hg).1; omega) _ _
        · show M.LR _ _ _ _ _ _
          rw [HNX.out, HS6.out]
          exact H6.out.st rfl (M.st9_8 H6.out.dd _)
      case measure => simp [intOf]; omega
    · have KB : Hid (∀ {W : World} (j : Nat) (u : Value), Below w.heap.size w W → Below w.heap.size w (W.setCell ⟨w.heap.size, j, none⟩ u)) := fun j u hB => hB.setCell (Nat.le_refl _) u
      have fx := M.bk_free HG.out.xx
      have r0 := M.bk_cell HG.out.xx 0 (.int .i64 0) rfl
      have r1 := M.bk_cell HG.out.xx 1 (.string ⟨#[]⟩) rfl
      have r2 := M.bk_cell HG.out.xx 2 (.int .i64 0) rfl
      have r3 := M.bk_cell HG.out.xx 3 (.int .i64 0) rfl
      have r4 := M.bk_cell HG.out.xx 4 (.int .i64 0) rfl
      have r5 := M.bk_cell HG.out.xx 5 (.int .i64 0) rfl
      have r6 := M.bk_cell HG.out.xx 6 (.int .i64 0) rfl
      have r7 := M.bk_cell HG.out.xx 7 (.int .i64 0) rfl
      have r8 := M.bk_cell HG.out.xx 8 (.slice none 0 0) rfl
      have c0 := M.bk_cell HG.out.dd 0 (.int .i64 x1) rfl
      have c1 := M.bk_cell HG.out.dd 1 (.string hs) rfl
      have c2 := M.bk_cell HG.out.dd 2 (.int .i64 x2) rfl
      have c3 := M.bk_cell HG.out.dd 3 (.int .i64 x3) rfl
      have c4 := M.bk_cell HG.out.dd 4 (.int .i64 x4) rfl
      have c5 := M.bk_cell HG.out.dd 5 (.int .i64 x5) rfl
      have c6 := M.bk_cell HG.out.dd 6 (.int .i64 x6) rfl
      have c7 := M.bk_cell HG.out.dd 7 (.int .i64 x7) rfl
      have c8 := M.bk_cell HG.out.dd 8 (.slice va ps.length vc) rfl
      have hdx : ¬ (D = w.heap.size) := by have := HG.out.far; omega
      have hxd : ¬ (w.heap.size = D) := by have := HG.out.far; omega
      cases sk with
      | none =>
        have HF : Hid (M.rok t = false) := by
          show _ = _
          rw [HOK.out]
          by_cases hc : 0 ≤ n ∧ n ≤ 8
          · have : (M.rparts t n.toNat s9).2 = none := M.rparts_none HSK.out.symm _ (by have := HKN.out; omega)
            rw [this]
            simp
          · rw [decide_eq_false hc]; rfl
        have cb : wr.cell? ⟨w.heap.size + 1, 2, none⟩ = some (.bool true) := by
          obtain ⟨a, ha, hh⟩ := HG.out.rd
          exact M.bk_cell hh 2 _ rfl
        obtain ⟨u1, d1⟩ : ∃ u, decide ((k : Int) < n) = u := ⟨_, rfl⟩
        obtain ⟨u2, d2⟩ : ∃ u, decide (k ≤ 8) = u := ⟨_, rfl⟩
        have d3 : decide ((k : Int) ≤ 8) = u2 := by rw [← d2]; exact decide_eq_decide.2 (by omega)
        clear hcont
        cases u1 <;> cases u2
        all_goals
          go_wp2
          go_region
          all_goals (try go_wp2)
          refine bodyPost_ret (v := .tuple #[.agg #[.int .i64 x1, .string hs, .int .i64 x2, .int .i64 x3, .int .i64 x4, .int .i64 x5, .int .i64 x6, .int .i64 x7, .slice va ps.length vc], .bool false]) (by simp [results, Try.results49, go_sem, r0, r1, r2, r3, r4, r5, r6, r7, r8]) rfl ⟨⟨x1, hs, x2, x3, x4, x5, x6, x7, ps⟩, .slice va ps.length vc, by rw [HF.out]; rfl, ⟨_, _, _, rfl⟩, fun h => by (rw [HF.out] at h; cases h), ?_⟩
          refine Below.drew ?_
          iterate 9 refine KB.out _ _ ?_
          exact HG.out.bel
      | some b =>
        have hh : wr.heap[w.heap.size + 1]? = some (.cells #[.string t, .int .i64 (b : Int), .bool false] 102 (0, 0)) := HG.out.rd
        have ca := M.bk_cell hh 1 _ rfl
        have cb := M.bk_cell hh 2 _ rfl
        have HH := M.hl hh
        clear hh
        have hno : ¬ ((k : Int) < n ∧ k ≤ 8) := fun h => hcont ⟨h.1, h.2, by simp⟩
        have HNO := M.hl hno
        obtain ⟨u1, d1⟩ : ∃ u, decide ((k : Int) < n) = u := ⟨_, rfl⟩
        obtain ⟨u2, d2⟩ : ∃ u, decide (k ≤ 8) = u := ⟨_, rfl⟩
        have d3 : decide ((k : Int) ≤ 8) = u2 := by rw [← d2]; exact decide_eq_decide.2 (by omega)
        clear hcont hno
        have HF1 : Hid (n < 0 ∨ b ≠ t.size → M.rok t = false) := by
          intro hor
          rw [HOK.out]
          by_cases hc : 0 ≤ n ∧ n ≤ 8
          · have hkn : n.toNat = k := by have := HKN.out; have := HNO.out; omega
            rw [hkn, ← HSK.out]
            have : b ≠ t.size := by rcases hor with h | h; omega; exact h
            simp [this]
          · rw [decide_eq_false hc]; rfl
        by_cases hn0 : 0 ≤ n
        case neg =>
          have HF := M.hl (HF1.out (.inl (by omega)))
          have d4 : decide (0 ≤ n) = false := decide_eq_false hn0
          have d5 : decide (n ≥ 0) = false := decide_eq_false hn0
          cases u1 <;> cases u2
          case true.true => exact absurd ⟨of_decide_eq_true d1, of_decide_eq_true d2⟩ HNO.out
          all_goals
            go_wp2
            go_region
            all_goals (try go_wp2)
            refine bodyPost_ret (v := .tuple #[.agg #[.int .i64 x1, .string hs, .int .i64 x2, .int .i64 x3, .int .i64 x4, .int .i64 x5, .int .i64 x6, .int .i64 x7, .slice va ps.length vc], .bool false]) (by simp [results, Try.results49, go_sem, r0, r1, r2, r3, r4, r5, r6, r7, r8]) rfl ⟨⟨x1, hs, x2, x3, x4, x5, x6, x7, ps⟩, .slice va ps.length vc, by rw [HF.out]; rfl, ⟨_, _, _, rfl⟩, fun h => by (rw [HF.out] at h; cases h), ?_⟩
            refine Below.drew ?_
            iterate 9 refine KB.out _ _ ?_
            exact HG.out.bel
        have d4 : decide (0 ≤ n) = true := decide_eq_true hn0
        have d5 : decide (n ≥ 0) = true := decide_eq_true hn0
        by_cases hbs : b = t.size
        case neg =>
          have HF := M.hl (HF1.out (.inr hbs))
          have d6 : ((b : Int) == (t.size : Int)) = false := by simp; omega
          have d7 : (b == t.size) = false := by simp [hbs]
          have d8 : decide (b = t.size) = false := decide_eq_false hbs
          cases u1 <;> cases u2
          case true.true => exact absurd ⟨of_decide_eq_true d1, of_decide_eq_true d2⟩ HNO.out
          all_goals
            go_wp2
            go_region
            all_goals (try go_wp2)
            refine bodyPost_ret (v := .tuple #[.agg #[.int .i64 x1, .string hs, .int .i64 x2, .int .i64 x3, .int .i64 x4, .int .i64 x5, .int .i64 x6, .int .i64 x7, .slice va ps.length vc], .bool false]) (by simp [results, Try.results49, go_sem, r0, r1, r2, r3, r4, r5, r6, r7, r8]) rfl ⟨⟨x1, hs, x2, x3, x4, x5, x6, x7, ps⟩, .slice va ps.length vc, by rw [HF.out]; rfl, ⟨_, _, _, rfl⟩, fun h => by (rw [HF.out] at h; cases h), ?_⟩
            refine Below.drew ?_
            iterate 9 refine KB.out _ _ ?_
            exact HG.out.bel
        have HR : Hid (M.rok t = M.dumpR ⟨x1, hs, x2, x3, x4, x5, x6, x7, ps⟩) := by
          show _ = _
          rw [HOK.out]
          by_cases hc : 0 ≤ n ∧ n ≤ 8
          · have hkn : n.toNat = k := by have := HKN.out; have := HNO.out; omega
            rw [hkn, ← HSK.out, ← HP.out, decide_eq_true hc, hbs]
            simp
          · rw [decide_eq_false hc]
            have h9 : ¬ ps.length ≤ 8 := by have := HPL.out; have := HNO.out; omega
            unfold M.dumpR
            simp [h9]
        have HR2 : Hid (M.rok t = true → (⟨x1, hs, x2, x3, x4, x5, x6, x7, ps⟩ : M.DumpD) = (M.rdump t).1) := by
          intro hy
          have hc : 0 ≤ n ∧ n ≤ 8 := by
            rw [HOK.out] at hy
            simp only [Bool.and_eq_true, decide_eq_true_eq] at hy
            exact hy.1.1
          have hkn : n.toNat = k := by have := HKN.out; have := HNO.out; omega
          rw [HRD.out hc, hkn, ← HP.out]
        have CR : Hid (∀ W, M.Pts W va ps.length vc ps → Calls Try.prog 17 #[.agg #[.int .i64 x1, .string hs, .int .i64 x2, .int .i64 x3, .int .i64 x4, .int .i64 x5, .int .i64 x6, .int .i64 x7, .slice va ps.length vc]] W fun e w' => e = .returned (.bool (M.dumpR ⟨x1, hs, x2, x3, x4, x5, x6, x7, ps⟩)) ∧ Below W.heap.size W w') := fun W hW => sDumpR_any W x1 hs x2 x3 x4 x5 x6 x7 va ps.length vc ps hW (by have := HHZ.out; unfold maxLen; omega)
        generalize M.dumpR ⟨x1, hs, x2, x3, x4, x5, x6, x7, ps⟩ = r at CR HR
        have PW : Hid (M.Pts wr va ps.length vc ps) := by obtain ⟨a', c', e, hp⟩ := HO.out.pts; cases e; exact hp
        have d6 : ((b : Int) == (t.size : Int)) = true := by rw [hbs]; simp
        have d7 : (b == t.size) = true := by simp [hbs]
        have HBS := M.hl hbs
        clear hbs HF1
        cases u1 <;> cases u2
        case true.true => exact absurd ⟨of_decide_eq_true d1, of_decide_eq_true d2⟩ HNO.out
        all_goals
          go_wp2_with fail
          go_region_held_law (fun w' => w'.cell? ⟨D, 0, none⟩ = some (.int .i64 x1) ∧ w'.cell? ⟨D, 1, none⟩ = some (.string hs) ∧ w'.cell? ⟨D, 2, none⟩ = some (.int .i64 x2) ∧ w'.cell? ⟨D, 3, none⟩ = some (.int .i64 x3) ∧ w'.cell? ⟨D, 4, none⟩ = some (.int .i64 x4) ∧ w'.cell? ⟨D, 5, none⟩ = some (.int .i64 x5) ∧ w'.cell? ⟨D, 6, none⟩ = some (.int .i64 x6) ∧ w'.cell? ⟨D, 7, none⟩ = some (.int .i64 x7) ∧ w'.cell? ⟨D, 8, none⟩ = some (.slice va ps.length vc) ∧ w'.cell? ⟨w.heap.size + 1, 1, none⟩ = some (.int .i64 (b : Int)) ∧ w'.cell? ⟨w.heap.size + 1, 2, none⟩ = some (.bool false)) (first | (with_reducible exact ⟨c0, c1, c2, c3, c4, c5, c6, c7, c8, ca, cb⟩) | go_keep) (first | (refine M.stepCallB (by first | rfl | kernel_rfl | simp [Region.wanted, yielded]) 17 (.tmp 92) 25 rfl (.agg #[.int .i64 x1, .string hs, .int .i64 x2, .int .i64 x3, .int .i64 x4, .int .i64 x5, .int .i64 x6, .int .i64 x7, .slice va ps.length vc]) (by simp [Act.eval]) (.bool r) (CR.out _ (PW.out.below (Below.refl _ _).drew)) (by kernel_rfl) ?_; intro w5 hb5; have V5 := M.hl (M.keepO (show wr.drew.heap[D]? = _ from HG.out.dd) hb5); have X5 := M.hl (M.keepO (show wr.drew.heap[w.heap.size]? = _ from HG.out.xx) hb5); have H5 := M.hl (M.keepO (show wr.drew.heap[w.heap.size + 1]? = _ from HH.out) hb5); have B5 := M.hl (M.sl HG.out.bel.drew hb5); have O5 := M.hl ((HO.out.below (Below.refl wr.heap.size wr).drew).below hb5); have c0 : w5.cell? ⟨D, 0, none⟩ = some (.int .i64 x1) := M.bk_cell V5.out 0 _ rfl; have c1 : w5.cell? ⟨D, 1, none⟩ = some (.string hs) := M.bk_cell V5.out 1 _ rfl; have c2 : w5.cell? ⟨D, 2, none⟩ = some (.int .i64 x2) := M.bk_cell V5.out 2 _ rfl; have c3 : w5.cell? ⟨D, 3, none⟩ = some (.int .i64 x3) := M.bk_cell V5.out 3 _ rfl; have c4 : w5.cell? ⟨D, 4, none⟩ = some (.int .i64 x4) := M.bk_cell V5.out 4 _ rfl; have c5 : w5.cell? ⟨D, 5, none⟩ = some (.int .i64 x5) := M.bk_cell V5.out 5 _ rfl; have c6 : w5.cell? ⟨D, 6, none⟩ = some (.int .i64 x6) := M.bk_cell V5.out 6 _ rfl; have c7 : w5.cell? ⟨D, 7, none⟩ = some (.int .i64 x7) := M.bk_cell V5.out 7 _ rfl; have c8 : w5.cell? ⟨D, 8, none⟩ = some (.slice va ps.length vc) := M.bk_cell V5.out 8 _ rfl; have r0 : w5.cell? ⟨w.heap.size, 0, none⟩ = some (.int .i64 0) := M.bk_cell X5.out 0 _ rfl; have r1 : w5.cell? ⟨w.heap.size, 1, none⟩ = some (.string ⟨#[]⟩) := M.bk_cell X5.out 1 _ rfl; have r2 : w5.cell? ⟨w.heap.size, 2, none⟩ = some (.int .i64 0) := M.bk_cell X5.out 2 _ rfl; have r3 : w5.cell? ⟨w.heap.size, 3, none⟩ = some (.int .i64 0) := M.bk_cell X5.out 3 _ rfl; have r4 : w5.cell? ⟨w.heap.size, 4, none⟩ = some (.int .i64 0) := M.bk_cell X5.out 4 _ rfl; have r5 : w5.cell? ⟨w.heap.size, 5, none⟩ = some (.int .i64 0) := M.bk_cell X5.out 5 _ rfl; have r6 : w5.cell? ⟨w.heap.size, 6, none⟩ = some (.int .i64 0) := M.bk_cell X5.out 6 _ rfl; have r7 : w5.cell? ⟨w.heap.size, 7, none⟩ = some (.int .i64 0) := M.bk_cell X5.out 7 _ rfl; have r8 : w5.cell? ⟨w.heap.size, 8, none⟩ = some (.slice none 0 0) := M.bk_cell X5.out 8 _ rfl; have ca : w5.cell? ⟨w.heap.size + 1, 1, none⟩ = some (.int .i64 (b : Int)) := M.bk_cell H5.out 1 _ rfl; have cb : w5.cell? ⟨w.heap.size + 1, 2, none⟩ = some (.bool false) := M.bk_cell H5.out 2 _ rfl; have fx := M.bk_free X5.out; clear hb5))
          all_goals (try go_wp2)
          refine bodyPost_ret (v := .tuple #[.agg #[.int .i64 x1, .string hs, .int .i64 x2, .int .i64 x3, .int .i64 x4, .int .i64 x5, .int .i64 x6, .int .i64 x7, .slice va ps.length vc], .bool r]) (by simp [results, Try.results49, go_sem, r0, r1, r2, r3, r4, r5, r6, r7, r8]) rfl ⟨⟨x1, hs, x2, x3, x4, x5, x6, x7, ps⟩, .slice va ps.length vc, by rw [HR.out]; rfl, ⟨_, _, _, rfl⟩, fun h => ⟨HR2.out h, ?_⟩, ?_⟩
          · have key : ∀ {W : World} (j : Nat) (u : Value), M.OwnPt W (D + 1) (.slice va ps.length vc) ps → M.OwnPt (W.setCell ⟨w.heap.size, j, none⟩ u) (D + 1) (.slice va ps.length vc) ps := fun j u hO => hO.setAt (by intro g hg e; have := (World.ownsRow.lt O5.out g hg).1; have := HG.out.far; omega) j u
            refine M.OwnPt.down (b := D + 1) ?_ (by have := HG.out.far; omega)
            iterate 9 refine key _ _ ?_
            exact O5.out
          · iterate 9 refine KB.out _ _ ?_
            exact B5.out
end Go.Proofs.Ytpokcbcffijheaa
