/-
  What the program's methods of a header do: put, sumText.
-/
import Derived.Test.YthiojdemcaaihaaGreatDoorPart9
import Derived.Test.YthiojdemcaaihaaGreatDoorIOctal
import Derived.Test.YthiojdemcaaihaaGreatDoorPackMath
import Derived.Test.YthiojdemcaaihaaGreatDoorPart5
import Derived.Test.YthiojdemcaaihaaGreatDoorPart3
namespace Go.Proofs.YthiojdemcaaihaaGreatDoor
open Go.RowKit

theorem M.put_copy {w : World} {b : Nat} {L : List UInt8} (H : M.Arr w b 43 L) (hL : L.length = 512) (at' : Nat) (t : ByteArray) (hat : at' + t.size ≤ 512) :
    ∃ W, (Builtin.copy_ #[52, 9] 3 #[.slice (some ⟨b, at', none⟩) (512 - at') (512 - at'), .string t]).run Tryz.prog w = .ok (goInt t.size) W
      ∧ M.Arr W b 43 (M.over L at' t.data.toList) ∧ ∀ (B : Nat) (a : World), B ≤ b → Below B a w → Below B a W := by
  have hr := run_copy_string (P := Tryz.prog) w 52 9 3 5 b at' (512 - at') (512 - at') t Tryz.underlying52 M.sizeU (by omega)
    (fun j hj => by rw [H.row.cell (at' + j) (by omega)]; rfl) (fun j hj => H.row.free (at' + j) (by omega))
  refine ⟨_, hr, ?_, fun B a hB hb => Lib.below_setCells _ hB _ _ hb⟩
  exact M.Arr.setCells t.data.toList at' _ _ H (by rw [← Lib.size_eq]; omega)

set_option maxRecDepth 100000 in
set_option maxHeartbeats 800000 in
theorem iPut_any (b : Nat) (L : List UInt8) (at' : Nat) (t : ByteArray) (w : World) (hL : L.length = 512) (hat : at' + t.size ≤ 512) (hlt : at' < 512) (H : M.Arr w b 43 L) :
    Calls Tryz.prog 81 #[.pointer (some ⟨b, 0, none⟩), .int .i64 at', .string t] w fun e w' => e = .returned (.tuple #[]) ∧ (M.over L at' t.data.toList).length = 512 ∧ M.Arr w' b 43 (M.over L at' t.data.toList) ∧ ∀ (B : Nat) (a : World), B ≤ b → Below B a w → Below B a w' := by
  obtain ⟨W, hcp, HA, HB⟩ := M.put_copy H hL at' t hat
  have HH : Hid (M.Arr W b 43 (M.over L at' t.data.toList) ∧ ∀ (B : Nat) (a : World), B ≤ b → Below B a w → Below B a W) := ⟨HA, HB⟩
  have hsl : ∀ W, (Instr.sliceAt 43 (.pointer (some ⟨b, 0, none⟩)) (some (.int .i64 (at' : Int))) none none).run Tryz.prog W = .ok (.slice (some ⟨b, at', none⟩) (512 - at') (512 - at')) W := fun W => by
    have hal : Tryz.prog.arrayLen 43 = 512 := by simp [Program.arrayLen, Tryz.underlying43]
    rw [run_sliceAt_array_l W 43 ⟨b, 0, none⟩ (by simp [Program.arrayLen, Program.elem, Tryz.underlying43]) .i64 (at' : Int) (by omega) (by rw [hal]; omega)]
    go_simp
    omega
  clear HA HB H
  go_enter Tryz.func81, Tryz.ntmps81
  go_wp2
  exact bodyPost_end (v := .tuple #[]) (by simp [results, Tryz.results81]) rfl ⟨rfl, by rw [M.over_len (by rw [← Lib.size_eq]; omega)]; exact hL, HH.out⟩

set_option maxRecDepth 100000 in
set_option maxHeartbeats 800000 in
theorem iSumT_any (b : Nat) (L : List UInt8) (w : World) (hL : L.length = 512) (H : M.Arr w b 43 L) (ht : M.tz w) :
    Calls Tryz.prog 32 #[.pointer (some ⟨b, 0, none⟩)] w fun e w' => e = .returned (.string (M.octB (M.sumH ⟨L.toArray⟩) 6 ++ ⟨#[0, 32]⟩)) ∧ Below w.heap.size w w' := by
  have HS : Hid (Calls Tryz.prog 52 #[.pointer (some ⟨b, 0, none⟩)] w fun e w' => e = .returned (.int .i64 (M.sumH ⟨L.toArray⟩)) ∧ ∃ n, w' = w.drewN n) := iSum_any b L w hL H.row
  have hle : M.sumH ⟨L.toArray⟩ ≤ 1000000 := by
    have := M.sumK_le ⟨L.toArray⟩ (ByteArray.size ⟨L.toArray⟩)
    rw [Lib.size_eq] at this
    unfold M.sumH
    rw [Lib.size_eq]
    simp only [hL] at this ⊢
    omega
  obtain ⟨q, hq⟩ : ∃ q, q = M.sumH ⟨L.toArray⟩ := ⟨_, rfl⟩
  rw [← hq] at HS hle ⊢
  have HO : Hid (∀ n, Calls Tryz.prog 51 #[.int .i64 q, .int .i64 6] (w.drewN n) fun e w' => e = .returned (.string (M.octB q 6)) ∧ Below (w.drewN n).heap.size (w.drewN n) w') := fun n => by
    have := iOctal_any q 6 (w.drewN n) (by omega) (by omega) (by unfold M.tz at ht ⊢; rw [World.cell?_drewN]; exact ht)
    rwa [show M.octal q 6 = M.octB q 6 from M.octal_yes (d := 6) (by decide) (by decide)] at this
  have hz := M.octB_size q 6
  clear hq ht H
  go_enter Tryz.func32, Tryz.ntmps32
  go_wp2_with fail
  refine HS.out.mono ?_
  rintro e w1 ⟨rfl, n, rfl⟩
  go_wp2_with fail
  refine (HO.out n).mono ?_
  rintro e w2 ⟨rfl, hb⟩
  have HB : Hid (Below w.heap.size w w2) := (below_drewN (Below.refl _ _) n).trans hb
  clear hb
  generalize hE : M.octB q 6 = z at hz ⊢
  have HE : Hid (M.octB q 6 = z) := hE
  clear hE
  go_wp2
  go_ret
  exact ⟨by rw [HE.out]; rfl, HB.out⟩
end Go.Proofs.YthiojdemcaaihaaGreatDoor

/-
  What HeaderOf of the program does.
-/
namespace Go.Proofs.YthiojdemcaaihaaGreatDoor
open Go.RowKit

theorem M.eq_empty_no {x : ByteArray} (h : ¬ x.size = 0) : (x.toList == []) = false := by
  rw [beq_eq_false_iff_ne]
  intro e
  apply h
  rw [Lib.size_eq, ← ByteArray.toList_eq, e]; rfl
theorem M.head_conv {w : World} {b : Nat} {L : List UInt8} (hL : L.length = 512) (H : M.Arr w b 43 L) : (convert 52 9 (.slice (some ⟨b, 0, none⟩) 512 512)).run Tryz.prog w = .ok (.string ⟨L.toArray⟩) w := by
  have := run_convert_bytes_back w 52 9 5 ⟨b, 0, none⟩ 512 L Tryz.underlying52 Tryz.underlying5 Tryz.underlying9 (fun i hi => by
    rw [Addr.add_lit, Nat.zero_add]
    exact H.row.cell i hi)
  rwa [hL] at this
theorem M.headerOf_no {name : ByteArray} {size mode time kind : Int} (h : ¬ (name.size ≤ 100 ∧ (0 ≤ size ∧ size ≤ 8589934591) ∧ (0 ≤ mode ∧ mode ≤ 2097151) ∧ (0 ≤ time ∧ time ≤ 8589934591) ∧ (0 ≤ kind ∧ kind ≤ 255))) : M.headerOf name size mode time kind = ⟨#[]⟩ := by
  unfold M.headerOf; rw [if_neg h]

set_option maxRecDepth 100000 in
set_option maxHeartbeats 1600000 in
/-- Where one of the five does not fit. -/
theorem iHeadOf_no (name : ByteArray) (size mode time kind : Int) (w : World) (hn : name.size ≤ maxLen) (s1 : -9223372036854775808 ≤ size) (s2 : size ≤ 9223372036854775807) (m1 : -9223372036854775808 ≤ mode) (m2 : mode ≤ 9223372036854775807)
    (t1 : -9223372036854775808 ≤ time) (t2 : time ≤ 9223372036854775807) (ht : M.tz w)
    (h : ¬ (name.size ≤ 100 ∧ (0 ≤ size ∧ size ≤ 8589934591) ∧ (0 ≤ mode ∧ mode ≤ 2097151) ∧ (0 ≤ time ∧ time ≤ 8589934591) ∧ (0 ≤ kind ∧ kind ≤ 255))) :
    Calls Tryz.prog 64 #[.string name, .int .i64 size, .int .i64 mode, .int .i64 time, .int .i64 kind] w fun e w' => e = .returned (.string ⟨#[]⟩) ∧ Below w.heap.size w w' := by
  unfold maxLen at hn
  have HO : Hid (∀ (n d : Int) W, -9223372036854775808 ≤ n → n ≤ 9223372036854775807 → Below w.heap.size w W → Calls Tryz.prog 51 #[.int .i64 n, .int .i64 d] W fun e w' => e = .returned (.string (M.octal n d)) ∧ Below w.heap.size w w') := fun n d W a b hb =>
    (iOctal_any n d W a b (ht.below hb)).mono fun e w' h => ⟨h.1, hb.trans (h.2.mono hb.size)⟩
  have HX : Hid (∀ (n : Int) (d : Nat), 1 ≤ d → d ≤ 20 → M.octal n d = ⟨#[]⟩ ∧ ((M.octal n d).toList == []) = true ∨ (0 ≤ n ∧ n < (8 ^ d : Nat)) ∧ ((M.octal n d).toList == []) = false) := fun n d h1 h2 => by
    by_cases hh : 0 ≤ n ∧ n < (8 ^ d : Nat)
    · exact .inr ⟨hh, by rw [M.octal_ok hh.1 hh.2 h1 h2]; exact M.eq_empty_no (by rw [Lib.size_eq]; simp [M.octT_len]; omega)⟩
    · have := M.octal_bad (n := n) (d := d) (by omega) h1 h2
      exact .inl ⟨this, by rw [this, ByteArray.toList_eq]; rfl⟩
  have HB0 : Hid (Below w.heap.size w w) := Below.refl _ _
  have x1 := HX.out mode 7 (by decide) (by decide)
  have x2 := HX.out size 11 (by decide) (by decide)
  have x3 := HX.out time 11 (by decide) (by decide)
  clear ht HX
  have Hh : Hid (¬ (name.size ≤ 100 ∧ (0 ≤ size ∧ size ≤ 8589934591) ∧ (0 ≤ mode ∧ mode ≤ 2097151) ∧ (0 ≤ time ∧ time ≤ 8589934591) ∧ (0 ≤ kind ∧ kind ≤ 255))) := h
  clear h
  go_enter Tryz.func64, Tryz.ntmps64
  go_wp2_with fail
  refine (HO.out mode 7 _ m1 m2 HB0.out).mono ?_
  rintro e w1 ⟨rfl, hb⟩
  have HB1 : Hid (Below w.heap.size w w1) := hb
  clear hb HB0
  go_wp2_with fail
  refine (HO.out size 11 _ s1 s2 HB1.out).mono ?_
  rintro e w2 ⟨rfl, hb⟩
  have HB2 : Hid (Below w.heap.size w w2) := hb
  clear hb HB1
  go_wp2_with fail
  refine (HO.out time 11 _ t1 t2 HB2.out).mono ?_
  rintro e w3 ⟨rfl, hb⟩
  have HB3 : Hid (Below w.heap.size w w3) := hb
  clear hb HB2 HO
  change (M.octal mode 7 = _ ∧ _ ∨ (0 ≤ mode ∧ mode < 2097152) ∧ _) at x1
  change (M.octal size 11 = _ ∧ _ ∨ (0 ≤ size ∧ size < 8589934592) ∧ _) at x2
  change (M.octal time 11 = _ ∧ _ ∨ (0 ≤ time ∧ time < 8589934592) ∧ _) at x3
  generalize M.octal mode 7 = y1 at x1 ⊢
  generalize M.octal size 11 = y2 at x2 ⊢
  generalize M.octal time 11 = y3 at x3 ⊢
  by_cases h0 : 100 < name.size
  · clear x1 x2 x3
    go_wp2
    go_ret
    exact ⟨rfl, HB3.out⟩
  rcases x1 with ⟨rfl, x1⟩ | ⟨g1, x1⟩
  · clear x2 x3
    go_wp2
    go_ret
    exact ⟨rfl, HB3.out⟩
  rcases x2 with ⟨rfl, x2⟩ | ⟨g2, x2⟩
  · clear x3
    go_wp2
    go_ret
    exact ⟨rfl, HB3.out⟩
  rcases x3 with ⟨rfl, x3⟩ | ⟨g3, x3⟩
  · go_wp2
    go_ret
    exact ⟨rfl, HB3.out⟩
  rcases (show kind < 0 ∨ 255 < kind from by have := Hh.out; omega) with hk | hk
  · go_wp2
    go_ret
    exact ⟨rfl, HB3.out⟩
  · have d1 : decide (kind < 0) = false := decide_eq_false (by omega)
    have d2 : decide (255 < kind) = true := decide_eq_true hk
    go_wp2
    go_ret
    exact ⟨rfl, HB3.out⟩
end Go.Proofs.YthiojdemcaaihaaGreatDoor

/-
  What HeaderOf of the program does where all fits.
-/
namespace Go.Proofs.YthiojdemcaaihaaGreatDoor
open Go.RowKit

set_option maxRecDepth 100000 in
set_option maxHeartbeats 3200000 in
/-- Where all of the five fit. -/
theorem iHeadOf_yes (name : ByteArray) (size mode time kind : Nat) (w : World) (h0 : name.size ≤ 100) (h1 : size ≤ 8589934591) (h2 : mode ≤ 2097151) (h3 : time ≤ 8589934591) (h4 : kind ≤ 255) (ht : M.tz w) :
    Calls Tryz.prog 64 #[.string name, .int .i64 size, .int .i64 mode, .int .i64 time, .int .i64 kind] w fun e w' => e = .returned (.string (M.head name size mode time kind)) ∧ Below w.heap.size w w' := by
  have HO : Hid (∀ (n d : Nat) W, n < 8 ^ d → 1 ≤ d → d ≤ 20 → n ≤ 9223372036854775807 → Below w.heap.size w W → Calls Tryz.prog 51 #[.int .i64 n, .int .i64 d] W fun e w' => e = .returned (.string ⟨(M.octT d n).toArray⟩) ∧ Below w.heap.size w w') := fun n d W hn a b h9 hb =>
    (iOctal_any n d W (by omega) (by omega) (ht.below hb)).mono fun e w' h => ⟨by rw [h.1, M.octal_ok (by omega) (by omega) a b, Int.toNat_natCast], hb.trans (h.2.mono hb.size)⟩
  have HP : Hid (∀ (b : Nat) (L : List UInt8) (at' : Nat) (t : ByteArray) (W : World), L.length = 512 → at' + t.size ≤ 512 → at' < 512 → M.Arr W b 43 L →
    Calls Tryz.prog 81 #[.pointer (some ⟨b, 0, none⟩), .int .i64 at', .string t] W fun e w' => e = .returned (.tuple #[]) ∧ (M.over L at' t.data.toList).length = 512 ∧ M.Arr w' b 43 (M.over L at' t.data.toList) ∧ ∀ (B : Nat) (a : World), B ≤ b → Below B a W → Below B a w') := iPut_any
  have HS : Hid (∀ (b : Nat) (L : List UInt8) (W : World), L.length = 512 → M.Arr W b 43 L → Below w.heap.size w W →
    Calls Tryz.prog 32 #[.pointer (some ⟨b, 0, none⟩)] W fun e w' => e = .returned (.string (M.octB (M.sumH ⟨L.toArray⟩) 6 ++ ⟨#[0, 32]⟩)) ∧ Below W.heap.size W w') := fun b L W hL H hb => iSumT_any b L W hL H (ht.below hb)
  have hz := (zero_of_info Tryz.infoH).1
  have HB0 : Hid (Below w.heap.size w w) := Below.refl _ _
  clear ht
  obtain ⟨y1, e1⟩ : ∃ y : ByteArray, y = ⟨(M.octT 7 mode).toArray⟩ := ⟨_, rfl⟩
  obtain ⟨y2, e2⟩ : ∃ y : ByteArray, y = ⟨(M.octT 11 size).toArray⟩ := ⟨_, rfl⟩
  obtain ⟨y3, e3⟩ : ∃ y : ByteArray, y = ⟨(M.octT 11 time).toArray⟩ := ⟨_, rfl⟩
  obtain ⟨y0, e0⟩ : ∃ y : ByteArray, y = ⟨(M.octT 7 0).toArray⟩ := ⟨_, rfl⟩
  have z1 : y1.size = 7 := by rw [e1, Lib.size_eq]; simp [M.octT_len]
  have z2 : y2.size = 11 := by rw [e2, Lib.size_eq]; simp [M.octT_len]
  have z3 : y3.size = 11 := by rw [e3, Lib.size_eq]; simp [M.octT_len]
  have z0 : y0.size = 7 := by rw [e0, Lib.size_eq]; simp [M.octT_len]
  have E1 : Hid (y1 = ⟨(M.octT 7 mode).toArray⟩) := e1
  have E2 : Hid (y2 = ⟨(M.octT 11 size).toArray⟩) := e2
  have E3 : Hid (y3 = ⟨(M.octT 11 time).toArray⟩) := e3
  have E0 : Hid (y0 = ⟨(M.octT 7 0).toArray⟩) := e0
  have x1 : (y1.toList == []) = false := M.eq_empty_no (by omega)
  have x2 : (y2.toList == []) = false := M.eq_empty_no (by omega)
  have x3 : (y3.toList == []) = false := M.eq_empty_no (by omega)
  clear e1 e2 e3 e0
  go_enter Tryz.func64, Tryz.ntmps64
  go_wp2_with fail
  refine (HO.out mode 7 _ (by omega) (by decide) (by decide) (by omega) HB0.out).mono ?_
  rintro e w1 ⟨rfl, hb⟩
  rw [← E1.out]
  have HB1 : Hid (Below w.heap.size w w1) := hb
  clear hb HB0
  go_wp2_with fail
  refine (HO.out size 11 _ (by omega) (by decide) (by decide) (by omega) HB1.out).mono ?_
  rintro e w2 ⟨rfl, hb⟩
  rw [← E2.out]
  have HB2 : Hid (Below w.heap.size w w2) := hb
  clear hb HB1
  go_wp2_with fail
  refine (HO.out time 11 _ (by omega) (by decide) (by decide) (by omega) HB2.out).mono ?_
  rintro e w3 ⟨rfl, hb⟩
  rw [← E3.out]
  have HB3 : Hid (Below w.heap.size w w3) := hb
  clear hb HB2
  have d0 : decide (100 < (name.size : Int)) = false := decide_eq_false (by omega)
  have d1 : decide ((kind : Int) < 0) = false := decide_eq_false (by omega)
  have d2 : decide (255 < (kind : Int)) = false := decide_eq_false (by omega)
  go_wp2_with fail
  refine (HO.out 0 7 _ (by decide) (by decide) (by decide) (by omega) HB3.out).mono ?_
  rintro e w4 ⟨rfl, hb⟩
  rw [← E0.out]
  have HA0 : Hid (M.Arr (w4.alloc (.cells M.zer 43)) w4.heap.size 43 (List.replicate 512 0)) := M.arr_made w4 _ _
  have HL0 : Hid ((List.replicate 512 (0 : UInt8)).length = 512) := List.length_replicate
  have hbk : w.heap.size ≤ w4.heap.size := hb.size
  have HB0 : Hid (Below w.heap.size w (w4.alloc (.cells M.zer 43))) := hb.alloc hb.size _
  clear hb HB3 HO d0 d1 d2
  go_wp2_with fail
  refine (HP.out w4.heap.size (List.replicate 512 0) 0 name _ HL0.out (by omega) (by decide) HA0.out).mono ?_
  rintro e u1 ⟨rfl, hl, ha, hbb⟩
  have HL1 : Hid (List.length (M.over (List.replicate 512 0) 0 name.data.toList) = 512) := hl
  have HA1 : Hid (M.Arr u1 w4.heap.size 43 (M.over (List.replicate 512 0) 0 name.data.toList)) := ha
  have HB1 : Hid (Below w.heap.size w u1) := hbb _ _ hbk HB0.out
  clear hl ha hbb HL0 HA0 HB0
  go_wp2_with fail
  refine (HP.out w4.heap.size (M.over (List.replicate 512 0) 0 name.data.toList) 100 y1 _ HL1.out (by omega) (by decide) HA1.out).mono ?_
  rintro e u2 ⟨rfl, hl, ha, hbb⟩
  have HL2 : Hid (List.length (M.over (M.over (List.replicate 512 0) 0 name.data.toList) 100 y1.data.toList) = 512) := hl
  have HA2 : Hid (M.Arr u2 w4.heap.size 43 (M.over (M.over (List.replicate 512 0) 0 name.data.toList) 100 y1.data.toList)) := ha
  have HB2 : Hid (Below w.heap.size w u2) := hbb _ _ hbk HB1.out
  clear hl ha hbb HL1 HA1 HB1
  go_wp2_with fail
  refine (HP.out w4.heap.size (M.over (M.over (List.replicate 512 0) 0 name.data.toList) 100 y1.data.toList) 108 y0 _ HL2.out (by omega) (by decide) HA2.out).mono ?_
  rintro e u3 ⟨rfl, hl, ha, hbb⟩
  have HL3 : Hid (List.length (M.over (M.over (M.over (List.replicate 512 0) 0 name.data.toList) 100 y1.data.toList) 108 y0.data.toList) = 512) := hl
  have HA3 : Hid (M.Arr u3 w4.heap.size 43 (M.over (M.over (M.over (List.replicate 512 0) 0 name.data.toList) 100 y1.data.toList) 108 y0.data.toList)) := ha
  have HB3 : Hid (Below w.heap.size w u3) := hbb _ _ hbk HB2.out
  clear hl ha hbb HL2 HA2 HB2
  go_wp2_with fail
  refine (HP.out w4.heap.size (M.over (M.over (M.over (List.replicate 512 0) 0 name.data.toList) 100 y1.data.toList) 108 y0.data.toList) 116 y0 _ HL3.out (by omega) (by decide) HA3.out).mono ?_
  rintro e u4 ⟨rfl, hl, ha, hbb⟩
  have HL4 : Hid (List.length (M.over (M.over (M.over (M.over (List.replicate 512 0) 0 name.data.toList) 100 y1.data.toList) 108 y0.data.toList) 116 y0.data.toList) = 512) := hl
  have HA4 : Hid (M.Arr u4 w4.heap.size 43 (M.over (M.over (M.over (M.over (List.replicate 512 0) 0 name.data.toList) 100 y1.data.toList) 108 y0.data.toList) 116 y0.data.toList)) := ha
  have HB4 : Hid (Below w.heap.size w u4) := hbb _ _ hbk HB3.out
  clear hl ha hbb HL3 HA3 HB3
  go_wp2_with fail
  refine (HP.out w4.heap.size (M.over (M.over (M.over (M.over (List.replicate 512 0) 0 name.data.toList) 100 y1.data.toList) 108 y0.data.toList) 116 y0.data.toList) 124 y2 _ HL4.out (by omega) (by decide) HA4.out).mono ?_
  rintro e u5 ⟨rfl, hl, ha, hbb⟩
  have HL5 : Hid (List.length (M.over (M.over (M.over (M.over (M.over (List.replicate 512 0) 0 name.data.toList) 100 y1.data.toList) 108 y0.data.toList) 116 y0.data.toList) 124 y2.data.toList) = 512) := hl
  have HA5 : Hid (M.Arr u5 w4.heap.size 43 (M.over (M.over (M.over (M.over (M.over (List.replicate 512 0) 0 name.data.toList) 100 y1.data.toList) 108 y0.data.toList) 116 y0.data.toList) 124 y2.data.toList)) := ha
  have HB5 : Hid (Below w.heap.size w u5) := hbb _ _ hbk HB4.out
  clear hl ha hbb HL4 HA4 HB4
  go_wp2_with fail
  refine (HP.out w4.heap.size (M.over (M.over (M.over (M.over (M.over (List.replicate 512 0) 0 name.data.toList) 100 y1.data.toList) 108 y0.data.toList) 116 y0.data.toList) 124 y2.data.toList) 136 y3 _ HL5.out (by omega) (by decide) HA5.out).mono ?_
  rintro e u6 ⟨rfl, hl, ha, hbb⟩
  have HL6 : Hid (List.length (M.over (M.over (M.over (M.over (M.over (M.over (List.replicate 512 0) 0 name.data.toList) 100 y1.data.toList) 108 y0.data.toList) 116 y0.data.toList) 124 y2.data.toList) 136 y3.data.toList) = 512) := hl
  have HA6 : Hid (M.Arr u6 w4.heap.size 43 (M.over (M.over (M.over (M.over (M.over (M.over (List.replicate 512 0) 0 name.data.toList) 100 y1.data.toList) 108 y0.data.toList) 116 y0.data.toList) 124 y2.data.toList) 136 y3.data.toList)) := ha
  have HB6 : Hid (Below w.heap.size w u6) := hbb _ _ hbk HB5.out
  clear hl ha hbb HL5 HA5 HB5
  obtain ⟨P, HP8⟩ : ∃ P, Hid (P = M.over ((M.over (M.over (M.over (M.over (M.over (M.over (List.replicate 512 0) 0 name.data.toList) 100 y1.data.toList) 108 y0.data.toList) 116 y0.data.toList) 124 y2.data.toList) 136 y3.data.toList).set 156 (UInt8.ofNat kind)) 257 (⟨#[117, 115, 116, 97, 114, 0, 48, 48]⟩ : ByteArray).data.toList) := ⟨_, rfl⟩
  have g0 := HA6.out.row.cell 156 (by rw [HL6.out]; decide)
  have f0 := HA6.out.row.free 156 (by rw [HL6.out]; decide)
  generalize Value.int .u8 _ = v0 at g0
  have hwr : IntKind.u8.wrap (kind : Int) = (kind : Int) := by rw [IntKind.wrap_u8]; omega
  have HA7 : Hid (M.Arr (u6.setCell ⟨w4.heap.size, 156, none⟩ (.int .u8 (kind : Int))) w4.heap.size 43 ((M.over (M.over (M.over (M.over (M.over (M.over (List.replicate 512 0) 0 name.data.toList) 100 y1.data.toList) 108 y0.data.toList) 116 y0.data.toList) 124 y2.data.toList) 136 y3.data.toList).set 156 (UInt8.ofNat kind))) := by
    have := HA6.out.set 156 (UInt8.ofNat kind)
    rwa [show M.u8 (UInt8.ofNat kind) = .int .u8 (kind : Int) by unfold M.u8; rw [UInt8.toNat_ofNat', Nat.mod_eq_of_lt (show kind < 2 ^ 8 by omega)]] at this
  have HL7 : Hid (List.length ((M.over (M.over (M.over (M.over (M.over (M.over (List.replicate 512 0) 0 name.data.toList) 100 y1.data.toList) 108 y0.data.toList) 116 y0.data.toList) 124 y2.data.toList) 136 y3.data.toList).set 156 (UInt8.ofNat kind)) = 512) := by show _ = _; rw [List.length_set]; exact HL6.out
  have HB7 : Hid (Below w.heap.size w (u6.setCell ⟨w4.heap.size, 156, none⟩ (.int .u8 (kind : Int)))) := HB6.out.setCell hbk _
  clear HL6 HA6 HB6
  go_wp2_with fail
  refine (HP.out w4.heap.size ((M.over (M.over (M.over (M.over (M.over (M.over (List.replicate 512 0) 0 name.data.toList) 100 y1.data.toList) 108 y0.data.toList) 116 y0.data.toList) 124 y2.data.toList) 136 y3.data.toList).set 156 (UInt8.ofNat kind)) 257 (⟨#[117, 115, 116, 97, 114, 0, 48, 48]⟩ : ByteArray) _ HL7.out (by decide) (by decide) HA7.out).mono ?_
  rintro e u8 ⟨rfl, hl, ha, hbb⟩
  rw [← HP8.out] at hl ha
  have HL8 : Hid (P.length = 512) := hl
  have HA8 : Hid (M.Arr u8 w4.heap.size 43 P) := ha
  have HB8 : Hid (Below w.heap.size w u8) := hbb _ _ hbk HB7.out
  clear hl ha hbb HL7 HA7 HB7 g0 f0 hwr
  go_wp2_with fail
  refine (HS.out w4.heap.size P _ HL8.out HA8.out HB8.out).mono ?_
  rintro e u9 ⟨rfl, hb⟩
  have HA9 : Hid (M.Arr u9 w4.heap.size 43 P) := HA8.out.below hb HA8.out.lt
  have HB9 : Hid (Below w.heap.size w u9) := HB8.out.trans (hb.mono HB8.out.size)
  obtain ⟨sm, hsm⟩ : ∃ sm, sm = M.octB (M.sumH ⟨P.toArray⟩) 6 ++ ⟨#[0, 32]⟩ := ⟨_, rfl⟩
  have hsz : sm.size ≤ 8 := by
    rw [hsm, ByteArray.size_append]
    have := M.octB_size (M.sumH ⟨P.toArray⟩) 6
    show _ + 2 ≤ 8
    omega
  have HSM : Hid (sm = M.octB (M.sumH ⟨P.toArray⟩) 6 ++ ⟨#[0, 32]⟩) := hsm
  rw [← hsm]
  clear hb hsm HA8 HB8
  go_wp2_with fail
  refine (HP.out w4.heap.size P 148 sm _ HL8.out (by omega) (by decide) HA9.out).mono ?_
  rintro e u10 ⟨rfl, hl, ha, hbb⟩
  have HB10 : Hid (Below w.heap.size w u10) := hbb _ _ hbk HB9.out
  have hcv := M.head_conv hl ha
  have HF : Hid (M.head name size mode time kind = ⟨(M.over P 148 sm.data.toList).toArray⟩) := by
    show _ = _
    rw [HSM.out]
    refine M.head_final h0 (by omega) (by omega) (by omega) ?_
    rw [HP8.out, E1.out, E2.out, E3.out, E0.out]
    rfl
  generalize (⟨(M.over P 148 sm.data.toList).toArray⟩ : ByteArray) = r at hcv HF
  clear hl ha hbb HL8 HA9 HB9
  go_wp2
  go_ret
  exact ⟨by rw [HF.out]; rfl, HB10.out⟩
end Go.Proofs.YthiojdemcaaihaaGreatDoor

/-
  What blocksFor, zeroBlocks, filledUp, nameIn and kindOf of the program do.
-/
namespace Go.Proofs.YthiojdemcaaihaaGreatDoor
open Go.RowKit

theorem M.s1i {a w v : World} (h : Below a.heap.size a w) (h' : Below w.heap.size w v) : Below a.heap.size a v := h.trans (h'.mono h.size)
theorem M.ret_int {k : IntKind} {a b : Int} (h : a = b) : Ending.returned (.int k a) = .returned (.int k b) := by rw [h]
theorem M.zer_ext (k n : Nat) (_ : n ≤ k) : (M.zerosB k).extract n k = M.zerosB (k - n) := by
  apply ByteArray.ext
  unfold M.zerosB
  rw [ByteArray.data_extract]
  apply Array.ext'
  simp
theorem M.blocks_fill (n : Nat) : (n + 511) / 512 * 512 - n = M.fillN n := by unfold M.fillN; omega

set_option maxRecDepth 100000 in
set_option maxHeartbeats 400000 in
theorem iBlocks_any (n : Nat) (w : World) (h : n ≤ 100000000000) :
    Calls Tryz.prog 34 #[.int .i64 n] w fun e w' => e = .returned (.int .i64 ((n + 511) / 512 : Nat)) ∧ w = w' := by
  go_enter Tryz.func34, Tryz.ntmps34
  go_wp2
  go_ret
  exact ⟨M.ret_int (by omega), rfl⟩

set_option maxRecDepth 100000 in
set_option maxHeartbeats 800000 in
theorem iZBlocks_any (n : Nat) (w : World) (hn : n ≤ 1000) :
    Calls Tryz.prog 43 #[.int .i64 n] w fun e w' => e = .returned (.string (M.zerosB (n * 512))) ∧ Below w.heap.size w w' := by
  obtain ⟨i0, hi, hz0, hz1, hz2⟩ := info_parts (show (Tryz.prog.info? 5).map (fun i => (i.zero, i.size, i.bytes)) = some (some (.int .u8 0), 1, 1) by kernel_rfl)
  go_enter Tryz.func43, Tryz.ntmps43
  go_wp2_with (at_make; refine wpList_make_full _ rfl _ _ 52 rfl w.heap.size 5 i0 _ 1 Tryz.underlying52 hi hz0 hz1 .i64 .i64 _ _ (n * 512) rfl rfl ?c1 ?c2 ?c3 ?c4 ?c5 ?_)
  case c1 => omega
  case c2 => omega
  case c3 => rw [hz2]; omega
  case c4 => unfold maxLen; omega
  case c5 => exact Nat.le_refl _
  intro w1 hown hgrow
  rw [M.made_zero] at hown
  have hcv := M.conv_all (M.Bytes.made hown)
  rw [List.length_replicate] at hcv
  have HW1 : Hid (Below w.heap.size w w1) := ⟨hgrow.os, hgrow.tape, hgrow.output, hgrow.size, fun k hk => hgrow.block k hk (by simp)⟩
  clear hown hgrow
  have hE : Hid ((⟨(List.replicate (n * 512) 0).toArray⟩ : ByteArray) = M.zerosB (n * 512)) := rfl
  generalize (⟨(List.replicate (n * 512) 0).toArray⟩ : ByteArray) = z at hcv hE
  go_wp2
  go_ret
  exact ⟨by rw [← hE.out]; rfl, HW1.out⟩

set_option maxRecDepth 100000 in
set_option maxHeartbeats 800000 in
theorem iFill_any (t : ByteArray) (w : World) (h : t.size ≤ 100000) :
    Calls Tryz.prog 66 #[.string t] w fun e w' => e = .returned (.string (M.fillB t)) ∧ Below w.heap.size w w' := by
  have HB : Hid (Calls Tryz.prog 34 #[.int .i64 t.size] w fun e w' => e = .returned (.int .i64 ((t.size + 511) / 512 : Nat)) ∧ w = w') := iBlocks_any t.size w (by omega)
  obtain ⟨q, hq⟩ : ∃ q, q = (t.size + 511) / 512 := ⟨_, rfl⟩
  rw [← hq] at HB
  have hq1 : q * 512 - t.size = M.fillN t.size := by rw [hq]; exact M.blocks_fill _
  have hq2 : t.size ≤ q * 512 := by rw [hq]; omega
  have hq3 : q ≤ 1000 := by rw [hq]; omega
  have HZ : Hid (Calls Tryz.prog 43 #[.int .i64 q] w fun e w' => e = .returned (.string (M.zerosB (q * 512))) ∧ Below w.heap.size w w') := iZBlocks_any q w hq3
  have hz : (M.zerosB (q * 512)).size = q * 512 := M.zerosB_size _
  have HE : Hid (t ++ (M.zerosB (q * 512)).extract t.size (q * 512) = M.fillB t) := by show _ = _; rw [M.zer_ext _ _ hq2, hq1]; rfl
  clear hq
  go_enter Tryz.func66, Tryz.ntmps66
  go_wp2_with fail
  refine HB.out.mono ?_
  rintro e w1 ⟨rfl, rfl⟩
  go_wp2_with fail
  refine HZ.out.mono ?_
  rintro e w2 ⟨rfl, hb⟩
  have HB2 : Hid (Below w.heap.size w w2) := hb
  generalize M.zerosB (q * 512) = z at hz HE ⊢
  clear hb hq1
  go_wp2
  go_ret
  exact ⟨by rw [← HE.out]; rfl, HB2.out⟩

set_option maxRecDepth 100000 in
set_option maxHeartbeats 400000 in
theorem iName_any (path : ByteArray) (dir : Bool) (m n : Int) (data : ByteArray) (w : World) (hp : path.size ≤ 150) :
    Calls Tryz.prog 62 #[.agg #[.string path, .bool dir, .int .i64 m, .int .i64 n, .string data]] w fun e w' => e = .returned (.string (M.fullB path dir)) ∧ Below w.heap.size w w' := by
  cases dir
  all_goals
    go_enter Tryz.func62, Tryz.ntmps62
    go_wp2
    go_ret
    exact ⟨rfl, (Below.refl _ _).alloc (Nat.le_refl _) _⟩
set_option maxRecDepth 100000 in
set_option maxHeartbeats 400000 in
theorem iKind_any (path : ByteArray) (dir : Bool) (m n : Int) (data : ByteArray) (w : World) :
    Calls Tryz.prog 65 #[.agg #[.string path, .bool dir, .int .i64 m, .int .i64 n, .string data]] w fun e w' => e = .returned (.int .i64 (M.kindN dir : Nat)) ∧ Below w.heap.size w w' := by
  cases dir
  all_goals
    go_enter Tryz.func65, Tryz.ntmps65
    go_wp2
    go_ret
    exact ⟨rfl, (Below.refl _ _).alloc (Nat.le_refl _) _⟩
end Go.Proofs.YthiojdemcaaihaaGreatDoor
