/-
  What HeaderOf of the program does where all fits.
-/
import Derived.Test.YtbmbcfnlpbbapahDoorIHeadOf
namespace Go.Proofs.YtbmbcfnlpbbapahDoor
open Go.RowKit

set_option maxRecDepth 100000 in
set_option maxHeartbeats 3200000 in
/-- Where all of the five fit. -/
theorem iHeadOf_yes (name : ByteArray) (size mode time kind : Nat) (w : World) (h0 : name.size ≤ 100) (h1 : size ≤ 8589934591) (h2 : mode ≤ 2097151) (h3 : time ≤ 8589934591) (h4 : kind ≤ 255) (ht : M.tz w) :
    Calls Tryd.prog 9 #[.string name, .int .i64 size, .int .i64 mode, .int .i64 time, .int .i64 kind] w fun e w' => e = .returned (.string (M.head name size mode time kind)) ∧ Below w.heap.size w w' := by
  have HO : Hid (∀ (n d : Nat) W, n < 8 ^ d → 1 ≤ d → d ≤ 20 → n ≤ 9223372036854775807 → Below w.heap.size w W → Calls Tryd.prog 7 #[.int .i64 n, .int .i64 d] W fun e w' => e = .returned (.string ⟨(M.octT d n).toArray⟩) ∧ Below w.heap.size w w') := fun n d W hn a b h9 hb =>
    (iOctal_any n d W (by omega) (by omega) (ht.below hb)).mono fun e w' h => ⟨by rw [h.1, M.octal_ok (by omega) (by omega) a b, Int.toNat_natCast], hb.trans (h.2.mono hb.size)⟩
  have HP : Hid (∀ (b : Nat) (L : List UInt8) (at' : Nat) (t : ByteArray) (W : World), L.length = 512 → at' + t.size ≤ 512 → at' < 512 → M.Arr W b 37 L →
    Calls Tryd.prog 20 #[.pointer (some ⟨b, 0, none⟩), .int .i64 at', .string t] W fun e w' => e = .returned (.tuple #[]) ∧ (M.over L at' t.data.toList).length = 512 ∧ M.Arr w' b 37 (M.over L at' t.data.toList) ∧ ∀ (B : Nat) (a : World), B ≤ b → Below B a W → Below B a w') := iPut_any
  have HS : Hid (∀ (b : Nat) (L : List UInt8) (W : World), L.length = 512 → M.Arr W b 37 L → Below w.heap.size w W →
    Calls Tryd.prog 21 #[.pointer (some ⟨b, 0, none⟩)] W fun e w' => e = .returned (.string (M.octB (M.sumH ⟨L.toArray⟩) 6 ++ ⟨#[0, 32]⟩)) ∧ Below W.heap.size W w') := fun b L W hL H hb => iSumT_any b L W hL H (ht.below hb)
  have hz := (zero_of_info Tryd.infoH).1
  have HB0 : Hid (Below w.heap.size w w) := Below.refl _ _
  clear ht
  obtain ⟨y1, e1⟩ : ∃ y : ByteArray, y = ⟨(M.octT 7 mode).toArray⟩ := ⟨_, rfl⟩
  obtain ⟨y2, e2⟩ : ∃ y : ByteArray, y = ⟨(M.octT 11 size).toArray⟩ := ⟨_, rfl⟩
  obtain ⟨y3, e3⟩ : ∃ y : ByteArray, y = ⟨(M.octT 11 time).toArray⟩ := ⟨_, rfl⟩
  obtain ⟨y0, e0⟩ : ∃ y : ByteArray, y = ⟨(M.octT 7 0).toArray⟩ := ⟨_, rfl⟩
  have z1 : y1.size = 7 := by rw [e1, Lib.size_eq]; simp [M.octT_len]
  have z2 : y2.size = 11 := by rw [e2, Lib.size_eq]; simp [M.octT_len]
  have z3 : y3.size = 11 := by rw [e3, Lib.size_eq]; simp [M.octT_len]
  have z0 : y0.size = 7 := by rw [e0, Lib.size_eq]; simp [M.octT_len]
  have E1 : Hid (y1 = ⟨(M.octT 7 mode).toArray⟩) := e1
  have E2 : Hid (y2 = ⟨(M.octT 11 size).toArray⟩) := e2
  have E3 : Hid (y3 = ⟨(M.octT 11 time).toArray⟩) := e3
  have E0 : Hid (y0 = ⟨(M.octT 7 0).toArray⟩) := e0
  have x1 : (y1.toList == []) = false := M.eq_empty_no (by omega)
  have x2 : (y2.toList == []) = false := M.eq_empty_no (by omega)
  have x3 : (y3.toList == []) = false := M.eq_empty_no (by omega)
  clear e1 e2 e3 e0
  go_enter Tryd.func9, Tryd.ntmps9
  go_wp2_with fail
  refine (HO.out mode 7 _ (by omega) (by decide) (by decide) (by omega) HB0.out).mono ?_
  rintro e w1 ⟨rfl, hb⟩
  rw [← E1.out]
  have HB1 : Hid (Below w.heap.size w w1) := hb
  clear hb HB0
  go_wp2_with fail
  refine (HO.out size 11 _ (by omega) (by decide) (by decide) (by omega) HB1.out).mono ?_
  rintro e w2 ⟨rfl, hb⟩
  rw [← E2.out]
  have HB2 : Hid (Below w.heap.size w w2) := hb
  clear hb HB1
  go_wp2_with fail
  refine (HO.out time 11 _ (by omega) (by decide) (by decide) (by omega) HB2.out).mono ?_
  rintro e w3 ⟨rfl, hb⟩
  rw [← E3.out]
  have HB3 : Hid (Below w.heap.size w w3) := hb
  clear hb HB2
  have d0 : decide (100 < (name.size : Int)) = false := decide_eq_false (by omega)
  have d1 : decide ((kind : Int) < 0) = false := decide_eq_false (by omega)
  have d2 : decide (255 < (kind : Int)) = false := decide_eq_false (by omega)
  go_wp2_with fail
  refine (HO.out 0 7 _ (by decide) (by decide) (by decide) (by omega) HB3.out).mono ?_
  rintro e w4 ⟨rfl, hb⟩
  rw [← E0.out]
  have HA0 : Hid (M.Arr (w4.alloc (.cells M.zer 37)) w4.heap.size 37 (List.replicate 512 0)) := M.arr_made w4 _ _
  have HL0 : Hid ((List.replicate 512 (0 : UInt8)).length = 512) := List.length_replicate
  have hbk : w.heap.size ≤ w4.heap.size := hb.size
  have HB0 : Hid (Below w.heap.size w (w4.alloc (.cells M.zer 37))) := hb.alloc hb.size _
  clear hb HB3 HO d0 d1 d2
  go_wp2_with fail
  refine (HP.out w4.heap.size (List.replicate 512 0) 0 name _ HL0.out (by omega) (by decide) HA0.out).mono ?_
  rintro e u1 ⟨rfl, hl, ha, hbb⟩
  have HL1 : Hid (List.length (M.over (List.replicate 512 0) 0 name.data.toList) = 512) := hl
  have HA1 : Hid (M.Arr u1 w4.heap.size 37 (M.over (List.replicate 512 0) 0 name.data.toList)) := ha
  have HB1 : Hid (Below w.heap.size w u1) := hbb _ _ hbk HB0.out
  clear hl ha hbb HL0 HA0 HB0
  go_wp2_with fail
  refine (HP.out w4.heap.size (M.over (List.replicate 512 0) 0 name.data.toList) 100 y1 _ HL1.out (by omega) (by decide) HA1.out).mono ?_
  rintro e u2 ⟨rfl, hl, ha, hbb⟩
  have HL2 : Hid (List.length (M.over (M.over (List.replicate 512 0) 0 name.data.toList) 100 y1.data.toList) = 512) := hl
  have HA2 : Hid (M.Arr u2 w4.heap.size 37 (M.over (M.over (List.replicate 512 0) 0 name.data.toList) 100 y1.data.toList)) := ha
  have HB2 : Hid (Below w.heap.size w u2) := hbb _ _ hbk HB1.out
  clear hl ha hbb HL1 HA1 HB1
  go_wp2_with fail
  refine (HP.out w4.heap.size (M.over (M.over (List.replicate 512 0) 0 name.data.toList) 100 y1.data.toList) 108 y0 _ HL2.out (by omega) (by decide) HA2.out).mono ?_
  rintro e u3 ⟨rfl, hl, ha, hbb⟩
  have HL3 : Hid (List.length (M.over (M.over (M.over (List.replicate 512 0) 0 name.data.toList) 100 y1.data.toList) 108 y0.data.toList) = 512) := hl
  have HA3 : Hid (M.Arr u3 w4.heap.size 37 (M.over (M.over (M.over (List.replicate 512 0) 0 name.data.toList) 100 y1.data.toList) 108 y0.data.toList)) := ha
  have HB3 : Hid (Below w.heap.size w u3) := hbb _ _ hbk HB2.out
  clear hl ha hbb HL2 HA2 HB2
  go_wp2_with fail
  refine (HP.out w4.heap.size (M.over (M.over (M.over (List.replicate 512 0) 0 name.data.toList) 100 y1.data.toList) 108 y0.data.toList) 116 y0 _ HL3.out (by omega) (by decide) HA3.out).mono ?_
  rintro e u4 ⟨rfl, hl, ha, hbb⟩
  have HL4 : Hid (List.length (M.over (M.over (M.over (M.over (List.replicate 512 0) 0 name.data.toList) 100 y1.data.toList) 108 y0.data.toList) 116 y0.data.toList) = 512) := hl
  have HA4 : Hid (M.Arr u4 w4.heap.size 37 (M.over (M.over (M.over (M.over (List.replicate 512 0) 0 name.data.toList) 100 y1.data.toList) 108 y0.data.toList) 116 y0.data.toList)) := ha
  have HB4 : Hid (Below w.heap.size w u4) := hbb _ _ hbk HB3.out
  clear hl ha hbb HL3 HA3 HB3
  go_wp2_with fail
  refine (HP.out w4.heap.size (M.over (M.over (M.over (M.over (List.replicate 512 0) 0 name.data.toList) 100 y1.data.toList) 108 y0.data.toList) 116 y0.data.toList) 124 y2 _ HL4.out (by omega) (by decide) HA4.out).mono ?_
  rintro e u5 ⟨rfl, hl, ha, hbb⟩
  have HL5 : Hid (List.length (M.over (M.over (M.over (M.over (M.over (List.replicate 512 0) 0 name.data.toList) 100 y1.data.toList) 108 y0.data.toList) 116 y0.data.toList) 124 y2.data.toList) = 512) := hl
  have HA5 : Hid (M.Arr u5 w4.heap.size 37 (M.over (M.over (M.over (M.over (M.over (List.replicate 512 0) 0 name.data.toList) 100 y1.data.toList) 108 y0.data.toList) 116 y0.data.toList) 124 y2.data.toList)) := ha
  have HB5 : Hid (Below w.heap.size w u5) := hbb _ _ hbk HB4.out
  clear hl ha hbb HL4 HA4 HB4
  go_wp2_with fail
  refine (HP.out w4.heap.size (M.over (M.over (M.over (M.over (M.over (List.replicate 512 0) 0 name.data.toList) 100 y1.data.toList) 108 y0.data.toList) 116 y0.data.toList) 124 y2.data.toList) 136 y3 _ HL5.out (by omega) (by decide) HA5.out).mono ?_
  rintro e u6 ⟨rfl, hl, ha, hbb⟩
  have HL6 : Hid (List.length (M.over (M.over (M.over (M.over (M.over (M.over (List.replicate 512 0) 0 name.data.toList) 100 y1.data.toList) 108 y0.data.toList) 116 y0.data.toList) 124 y2.data.toList) 136 y3.data.toList) = 512) := hl
  have HA6 : Hid (M.Arr u6 w4.heap.size 37 (M.over (M.over (M.over (M.over (M.over (M.over (List.replicate 512 0) 0 name.data.toList) 100 y1.data.toList) 108 y0.data.toList) 116 y0.data.toList) 124 y2.data.toList) 136 y3.data.toList)) := ha
  have HB6 : Hid (Below w.heap.size w u6) := hbb _ _ hbk HB5.out
  clear hl ha hbb HL5 HA5 HB5
  obtain ⟨P, HP8⟩ : ∃ P, Hid (P = M.over ((M.over (M.over (M.over (M.over (M.over (M.over (List.replicate 512 0) 0 name.data.toList) 100 y1.data.toList) 108 y0.data.toList) 116 y0.data.toList) 124 y2.data.toList) 136 y3.data.toList).set 156 (UInt8.ofNat kind)) 257 (⟨#[117, 115, 116, 97, 114, 0, 48, 48]⟩ : ByteArray).data.toList) := ⟨_, rfl⟩
  have g0 := HA6.out.row.cell 156 (by rw [HL6.out]; decide)
  have f0 := HA6.out.row.free 156 (by rw [HL6.out]; decide)
  generalize Value.int .u8 _ = v0 at g0
  have hwr : IntKind.u8.wrap (kind : Int) = (kind : Int) := by rw [IntKind.wrap_u8]; omega
  have HA7 : Hid (M.Arr (u6.setCell ⟨w4.heap.size, 156, none⟩ (.int .u8 (kind : Int))) w4.heap.size 37 ((M.over (M.over (M.over (M.over (M.over (M.over (List.replicate 512 0) 0 name.data.toList) 100 y1.data.toList) 108 y0.data.toList) 116 y0.data.toList) 124 y2.data.toList) 136 y3.data.toList).set 156 (UInt8.ofNat kind))) := by
    have := HA6.out.set 156 (UInt8.ofNat kind)
    rwa [show M.u8 (UInt8.ofNat kind) = .int .u8 (kind : Int) by unfold M.u8; rw [UInt8.toNat_ofNat', Nat.mod_eq_of_lt (show kind < 2 ^ 8 by omega)]] at this
  have HL7 : Hid (List.length ((M.over (M.over (M.over (M.over (M.over (M.over (List.replicate 512 0) 0 name.data.toList) 100 y1.data.toList) 108 y0.data.toList) 116 y0.data.toList) 124 y2.data.toList) 136 y3.data.toList).set 156 (UInt8.ofNat kind)) = 512) := by show _ = _; rw [List.length_set]; exact HL6.out
  have HB7 : Hid (Below w.heap.size w (u6.setCell ⟨w4.heap.size, 156, none⟩ (.int .u8 (kind : Int)))) := HB6.out.setCell hbk _
  clear HL6 HA6 HB6
  go_wp2_with fail
  refine (HP.out w4.heap.size ((M.over (M.over (M.over (M.over (M.over (M.over (List.replicate 512 0) 0 name.data.toList) 100 y1.data.toList) 108 y0.data.toList) 116 y0.data.toList) 124 y2.data.toList) 136 y3.data.toList).set 156 (UInt8.ofNat kind)) 257 (⟨#[117, 115, 116, 97, 114, 0, 48, 48]⟩ : ByteArray) _ HL7.out (by decide) (by decide) HA7.out).mono ?_
  rintro e u8 ⟨rfl, hl, ha, hbb⟩
  rw [← HP8.out] at hl ha
  have HL8 : Hid (P.length = 512) := hl
  have HA8 : Hid (M.Arr u8 w4.heap.size 37 P) := ha
  have HB8 : Hid (Below w.heap.size w u8) := hbb _ _ hbk HB7.out
  clear hl ha hbb HL7 HA7 HB7 g0 f0 hwr
  go_wp2_with fail
  refine (HS.out w4.heap.size P _ HL8.out HA8.out HB8.out).mono ?_
  rintro e u9 ⟨rfl, hb⟩
  have HA9 : Hid (M.Arr u9 w4.heap.size 37 P) := HA8.out.below hb HA8.out.lt
  have HB9 : Hid (Below w.heap.size w u9) := HB8.out.trans (hb.mono HB8.out.size)
  obtain ⟨sm, hsm⟩ : ∃ sm, sm = M.octB (M.sumH ⟨P.toArray⟩) 6 ++ ⟨#[0, 32]⟩ := ⟨_, rfl⟩
  have hsz : sm.size ≤ 8 := by
    rw [hsm, ByteArray.size_append]
    have := M.octB_size (M.sumH ⟨P.toArray⟩) 6
    show _ + 2 ≤ 8
    omega
  have HSM : Hid (sm = M.octB (M.sumH ⟨P.toArray⟩) 6 ++ ⟨#[0, 32]⟩) := hsm
  rw [← hsm]
  clear hb hsm HA8 HB8
  go_wp2_with fail
  refine (HP.out w4.heap.size P 148 sm _ HL8.out (by omega) (by decide) HA9.out).mono ?_
  rintro e u10 ⟨rfl, hl, ha, hbb⟩
  have HB10 : Hid (Below w.heap.size w u10) := hbb _ _ hbk HB9.out
  have hcv := M.head_conv hl ha
  have HF : Hid (M.head name size mode time kind = ⟨(M.over P 148 sm.data.toList).toArray⟩) := by
    show _ = _
    rw [HSM.out]
    refine M.head_final h0 (by omega) (by omega) (by omega) ?_
    rw [HP8.out, E1.out, E2.out, E3.out, E0.out]
    rfl
  generalize (⟨(M.over P 148 sm.data.toList).toArray⟩ : ByteArray) = r at hcv HF
  clear hl ha hbb HL8 HA9 HB9
  go_wp2
  go_ret
  exact ⟨by rw [HF.out]; rfl, HB10.out⟩
end Go.Proofs.YtbmbcfnlpbbapahDoor
