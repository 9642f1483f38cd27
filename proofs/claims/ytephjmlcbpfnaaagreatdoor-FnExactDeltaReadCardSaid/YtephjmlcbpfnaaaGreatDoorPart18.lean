/-
  What FormatInt of the library does to the base of eight, and Octal of the program.
-/
import Derived.Test.YtephjmlcbpfnaaaGreatDoorPart17
import Derived.Test.YtephjmlcbpfnaaaGreatDoorShelf
import Derived.Lib.Repeat
namespace Go.Proofs.YtephjmlcbpfnaaaGreatDoor
open Go.RowKit

set_option maxRecDepth 100000 in
set_option maxHeartbeats 800000 in
theorem fint_in (n : Nat) (w : World) (hn : n ≤ 9223372036854775807) (ht : M.tz w) :
    Calls Tryz.prog 188 #[.int .i64 n, .int .i64 8] w fun e w' => ∃ L, M.OctL n L ∧ e = .returned (.string ⟨(M.octT L n).toArray⟩) ∧ Below w.heap.size w w' := by
  have H : Hid (Calls Tryz.prog 205 #[.slice none 0 0, .int .u64 n, .int .i64 8, .bool false, .bool false] w fun e w' => ∃ L, M.OctL n L ∧ e = .returned (.tuple #[.slice none 0 0, .string ⟨(M.octT L n).toArray⟩]) ∧ Below w.heap.size w w') := fbits_any n w hn ht
  clear ht
  go_enter Tryz.func188, Tryz.ntmps188
  go_wp2_with fail
  refine H.out.mono ?_
  rintro e w1 ⟨L, hL, rfl, hb⟩
  have HL : Hid (M.OctL n L ∧ Below w.heap.size w w1) := ⟨hL, hb⟩
  clear hL hb
  go_wp2
  go_ret
  exact ⟨L, HL.out.1, rfl, HL.out.2⟩
set_option maxRecDepth 100000 in
set_option maxHeartbeats 800000 in
theorem fint_any (n : Nat) (w : World) (hn : n ≤ 9223372036854775807) (ht : M.tz w) :
    Calls Tryz.prog 174 #[.int .i64 n, .int .i64 8] w fun e w' => ∃ L, M.OctL n L ∧ e = .returned (.string ⟨(M.octT L n).toArray⟩) ∧ Below w.heap.size w w' := by
  have H : Hid (Calls Tryz.prog 188 #[.int .i64 n, .int .i64 8] w fun e w' => ∃ L, M.OctL n L ∧ e = .returned (.string ⟨(M.octT L n).toArray⟩) ∧ Below w.heap.size w w') := fint_in n w hn ht
  clear ht
  go_enter Tryz.func174, Tryz.ntmps174
  go_wp2_with fail
  refine H.out.mono ?_
  rintro e w1 ⟨L, hL, rfl, hb⟩
  have HL : Hid (M.OctL n L ∧ Below w.heap.size w w1) := ⟨hL, hb⟩
  clear hL hb
  go_wp2
  go_ret
  exact ⟨L, HL.out.1, rfl, HL.out.2⟩

theorem M.rep0 (c : Nat) : (⟨(Lib.repeatL (⟨#[48]⟩ : ByteArray).data.toList c).toArray⟩ : ByteArray) = ⟨(List.replicate c (48 : UInt8)).toArray⟩ := by
  congr 2
  show Lib.repeatL [48] c = _
  induction c with
  | zero => rfl
  | succ c ih => rw [List.replicate_succ, ← ih]; rfl
theorem M.join_L (a b : List UInt8) : (⟨a.toArray⟩ : ByteArray) ++ ⟨b.toArray⟩ = ⟨(a ++ b).toArray⟩ := by
  apply ByteArray.ext
  simp [ByteArray.data_append]

set_option maxRecDepth 100000 in
set_option maxHeartbeats 400000 in
theorem iOctal_any (n d : Int) (w : World) (h1 : -9223372036854775808 ≤ n) (h2 : n ≤ 9223372036854775807) (ht : M.tz w) :
    Calls Tryz.prog 149 #[.int .i64 n, .int .i64 d] w fun e w' => e = .returned (.string (M.octal n d)) ∧ Below w.heap.size w w' := by
  by_cases ha : n < 0
  · have hE : Hid (M.octal n d = ⟨#[]⟩) := M.octal_no (.inl ha)
    go_enter Tryz.func149, Tryz.ntmps149
    go_wp2
    go_ret
    exact ⟨by rw [hE.out]; rfl, Below.refl _ _⟩
  by_cases hb : d < 1
  · have hE : Hid (M.octal n d = ⟨#[]⟩) := M.octal_no (.inr (.inl hb))
    have d1 : decide (d < 1) = true := decide_eq_true hb
    go_enter Tryz.func149, Tryz.ntmps149
    go_wp2
    go_ret
    exact ⟨by rw [hE.out]; rfl, Below.refl _ _⟩
  have d1 : decide (d < 1) = false := decide_eq_false hb
  by_cases hc : 20 < d
  · have hE : Hid (M.octal n d = ⟨#[]⟩) := M.octal_no (.inr (.inr hc))
    have d2 : decide (20 < d) = true := decide_eq_true hc
    go_enter Tryz.func149, Tryz.ntmps149
    go_wp2
    go_ret
    exact ⟨by rw [hE.out]; rfl, Below.refl _ _⟩
  have d2 : decide (20 < d) = false := decide_eq_false hc
  obtain ⟨N, rfl⟩ : ∃ N : Nat, n = N := ⟨n.toNat, by omega⟩
  obtain ⟨D, rfl⟩ : ∃ D : Nat, d = D := ⟨d.toNat, by omega⟩
  have hE : Hid (M.octal N D = M.octB N D) := M.octal_yes (by omega) (by omega)
  have HO : Hid (Calls Tryz.prog 174 #[.int .i64 N, .int .i64 8] w fun e w' => ∃ L, M.OctL N L ∧ e = .returned (.string ⟨(M.octT L N).toArray⟩) ∧ Below w.heap.size w w') := fint_any N w (by omega) ht
  clear ht
  go_enter Tryz.func149, Tryz.ntmps149
  go_wp2_with fail
  refine HO.out.mono ?_
  rintro e w1 ⟨L, hL, rfl, hb1⟩
  have hL21 : L ≤ 21 := hL.le (by omega)
  have HB : Hid (Below w.heap.size w w1) := hb1
  have HL : Hid (M.OctL N L) := hL
  obtain ⟨t, ht⟩ : ∃ t : ByteArray, t = ⟨(M.octT L N).toArray⟩ := ⟨_, rfl⟩
  have hsz : t.size = L := by rw [ht, Lib.size_eq]; simp [M.octT_len]
  have Ht : Hid (t = ⟨(M.octT L N).toArray⟩) := ht
  rw [← ht]
  clear hb1 hL ht
  by_cases hLD : D < L
  · have hx : Hid (M.octB N D = ⟨#[]⟩) := HL.out.text_no (by omega) hLD
    go_wp2
    go_ret
    exact ⟨by rw [hE.out, hx.out]; rfl, HB.out⟩
  · have hx : Hid (M.octB N D = ⟨(List.replicate (D - L) (48 : UInt8)).toArray⟩ ++ t) := by
      show _ = _
      rw [HL.out.text (by omega), Ht.out, M.join_L]
    have HR : Hid (∀ W, Calls Tryz.prog 175 #[.string ⟨#[48]⟩, .int .i64 ((D - L : Nat) : Int)] W fun e w' => e = .returned (.string ⟨(List.replicate (D - L) (48 : UInt8)).toArray⟩) ∧ Below W.heap.size W w') := fun W => by
      have := Tryz.strings_Repeat ⟨#[48]⟩ (D - L) W (by omega) (by show 1 * _ ≤ _; omega)
      rw [M.rep0] at this
      exact this
    have hsub : (D : Int) - (L : Int) = ((D - L : Nat) : Int) := by omega
    have hz1 : (⟨(List.replicate (D - L) (48 : UInt8)).toArray⟩ : ByteArray).size ≤ 20 := by rw [Lib.size_eq]; simp; omega
    go_wp2_with fail
    refine (HR.out _).mono ?_
    rintro e w2 ⟨rfl, hb2⟩
    have HB2 : Hid (Below w.heap.size w w2) := HB.out.trans (hb2.mono HB.out.size)
    generalize (⟨(List.replicate (D - L) (48 : UInt8)).toArray⟩ : ByteArray) = z at hz1 hx
    clear hb2 hsub
    go_wp2
    go_ret
    exact ⟨by rw [hE.out, hx.out]; rfl, HB2.out⟩
end Go.Proofs.YtephjmlcbpfnaaaGreatDoor

/-
  What the program's methods of a header do: put, sumText.
-/
namespace Go.Proofs.YtephjmlcbpfnaaaGreatDoor
open Go.RowKit

theorem M.put_copy {w : World} {b : Nat} {L : List UInt8} (H : M.Arr w b 113 L) (hL : L.length = 512) (at' : Nat) (t : ByteArray) (hat : at' + t.size ≤ 512) :
    ∃ W, (Builtin.copy_ #[61, 9] 3 #[.slice (some ⟨b, at', none⟩) (512 - at') (512 - at'), .string t]).run Tryz.prog w = .ok (goInt t.size) W
      ∧ M.Arr W b 113 (M.over L at' t.data.toList) ∧ ∀ (B : Nat) (a : World), B ≤ b → Below B a w → Below B a W := by
  have hr := run_copy_string (P := Tryz.prog) w 61 9 3 5 b at' (512 - at') (512 - at') t Tryz.underlying61 M.sizeU (by omega)
    (fun j hj => by rw [H.row.cell (at' + j) (by omega)]; rfl) (fun j hj => H.row.free (at' + j) (by omega))
  refine ⟨_, hr, ?_, fun B a hB hb => Lib.below_setCells _ hB _ _ hb⟩
  exact M.Arr.setCells t.data.toList at' _ _ H (by rw [← Lib.size_eq]; omega)

set_option maxRecDepth 100000 in
set_option maxHeartbeats 800000 in
theorem iPut_any (b : Nat) (L : List UInt8) (at' : Nat) (t : ByteArray) (w : World) (hL : L.length = 512) (hat : at' + t.size ≤ 512) (hlt : at' < 512) (H : M.Arr w b 113 L) :
    Calls Tryz.prog 150 #[.pointer (some ⟨b, 0, none⟩), .int .i64 at', .string t] w fun e w' => e = .returned (.tuple #[]) ∧ (M.over L at' t.data.toList).length = 512 ∧ M.Arr w' b 113 (M.over L at' t.data.toList) ∧ ∀ (B : Nat) (a : World), B ≤ b → Below B a w → Below B a w' := by
  obtain ⟨W, hcp, HA, HB⟩ := M.put_copy H hL at' t hat
  have HH : Hid (M.Arr W b 113 (M.over L at' t.data.toList) ∧ ∀ (B : Nat) (a : World), B ≤ b → Below B a w → Below B a W) := ⟨HA, HB⟩
  have hsl : ∀ W, (Instr.sliceAt 113 (.pointer (some ⟨b, 0, none⟩)) (some (.int .i64 (at' : Int))) none none).run Tryz.prog W = .ok (.slice (some ⟨b, at', none⟩) (512 - at') (512 - at')) W := fun W => by
    have hal : Tryz.prog.arrayLen 113 = 512 := by simp [Program.arrayLen, Tryz.underlying113]
    rw [run_sliceAt_array_l W 113 ⟨b, 0, none⟩ (by simp [Program.arrayLen, Program.elem, Tryz.underlying113]) .i64 (at' : Int) (by omega) (by rw [hal]; omega)]
    go_simp
    omega
  clear HA HB H
  go_enter Tryz.func150, Tryz.ntmps150
  go_wp2
  exact bodyPost_end (v := .tuple #[]) (by simp [results, Tryz.results150]) rfl ⟨rfl, by rw [M.over_len (by rw [← Lib.size_eq]; omega)]; exact hL, HH.out⟩

set_option maxRecDepth 100000 in
set_option maxHeartbeats 800000 in
theorem iSumT_any (b : Nat) (L : List UInt8) (w : World) (hL : L.length = 512) (H : M.Arr w b 113 L) (ht : M.tz w) :
    Calls Tryz.prog 115 #[.pointer (some ⟨b, 0, none⟩)] w fun e w' => e = .returned (.string (M.octB (M.sumH ⟨L.toArray⟩) 6 ++ ⟨#[0, 32]⟩)) ∧ Below w.heap.size w w' := by
  have HS : Hid (Calls Tryz.prog 153 #[.pointer (some ⟨b, 0, none⟩)] w fun e w' => e = .returned (.int .i64 (M.sumH ⟨L.toArray⟩)) ∧ ∃ n, w' = w.drewN n) := iSum_any b L w hL H.row
  have hle : M.sumH ⟨L.toArray⟩ ≤ 1000000 := by
    have := M.sumK_le ⟨L.toArray⟩ (ByteArray.size ⟨L.toArray⟩)
    rw [Lib.size_eq] at this
    unfold M.sumH
    rw [Lib.size_eq]
    simp only [hL] at this ⊢
    omega
  obtain ⟨q, hq⟩ : ∃ q, q = M.sumH ⟨L.toArray⟩ := ⟨_, rfl⟩
  rw [← hq] at HS hle ⊢
  have HO : Hid (∀ n, Calls Tryz.prog 149 #[.int .i64 q, .int .i64 6] (w.drewN n) fun e w' => e = .returned (.string (M.octB q 6)) ∧ Below (w.drewN n).heap.size (w.drewN n) w') := fun n => by
    have := iOctal_any q 6 (w.drewN n) (by omega) (by omega) (by unfold M.tz at ht ⊢; rw [World.cell?_drewN]; exact ht)
    rwa [show M.octal q 6 = M.octB q 6 from M.octal_yes (d := 6) (by decide) (by decide)] at this
  have hz := M.octB_size q 6
  clear hq ht H
  go_enter Tryz.func115, Tryz.ntmps115
  go_wp2_with fail
  refine HS.out.mono ?_
  rintro e w1 ⟨rfl, n, rfl⟩
  go_wp2_with fail
  refine (HO.out n).mono ?_
  rintro e w2 ⟨rfl, hb⟩
  have HB : Hid (Below w.heap.size w w2) := (below_drewN (Below.refl _ _) n).trans hb
  clear hb
  generalize hE : M.octB q 6 = z at hz ⊢
  have HE : Hid (M.octB q 6 = z) := hE
  clear hE
  go_wp2
  go_ret
  exact ⟨by rw [HE.out]; rfl, HB.out⟩
end Go.Proofs.YtephjmlcbpfnaaaGreatDoor

/-
  What HeaderOf of the program does.
-/
namespace Go.Proofs.YtephjmlcbpfnaaaGreatDoor
open Go.RowKit

theorem M.eq_empty_no {x : ByteArray} (h : ¬ x.size = 0) : (x.toList == []) = false := by
  rw [beq_eq_false_iff_ne]
  intro e
  apply h
  rw [Lib.size_eq, ← ByteArray.toList_eq, e]; rfl
theorem M.head_conv {w : World} {b : Nat} {L : List UInt8} (hL : L.length = 512) (H : M.Arr w b 113 L) : (convert 61 9 (.slice (some ⟨b, 0, none⟩) 512 512)).run Tryz.prog w = .ok (.string ⟨L.toArray⟩) w := by
  have := run_convert_bytes_back w 61 9 5 ⟨b, 0, none⟩ 512 L Tryz.underlying61 Tryz.underlying5 Tryz.underlying9 (fun i hi => by
    rw [Addr.add_lit, Nat.zero_add]
    exact H.row.cell i hi)
  rwa [hL] at this
theorem M.headerOf_no {name : ByteArray} {size mode time kind : Int} (h : ¬ (name.size ≤ 100 ∧ (0 ≤ size ∧ size ≤ 8589934591) ∧ (0 ≤ mode ∧ mode ≤ 2097151) ∧ (0 ≤ time ∧ time ≤ 8589934591) ∧ (0 ≤ kind ∧ kind ≤ 255))) : M.headerOf name size mode time kind = ⟨#[]⟩ := by
  unfold M.headerOf; rw [if_neg h]

set_option maxRecDepth 100000 in
set_option maxHeartbeats 1600000 in
/-- Where one of the five does not fit. -/
theorem iHeadOf_no (name : ByteArray) (size mode time kind : Int) (w : World) (hn : name.size ≤ maxLen) (s1 : -9223372036854775808 ≤ size) (s2 : size ≤ 9223372036854775807) (m1 : -9223372036854775808 ≤ mode) (m2 : mode ≤ 9223372036854775807)
    (t1 : -9223372036854775808 ≤ time) (t2 : time ≤ 9223372036854775807) (ht : M.tz w)
    (h : ¬ (name.size ≤ 100 ∧ (0 ≤ size ∧ size ≤ 8589934591) ∧ (0 ≤ mode ∧ mode ≤ 2097151) ∧ (0 ≤ time ∧ time ≤ 8589934591) ∧ (0 ≤ kind ∧ kind ≤ 255))) :
    Calls Tryz.prog 98 #[.string name, .int .i64 size, .int .i64 mode, .int .i64 time, .int .i64 kind] w fun e w' => e = .returned (.string ⟨#[]⟩) ∧ Below w.heap.size w w' := by
  unfold maxLen at hn
  have HO : Hid (∀ (n d : Int) W, -9223372036854775808 ≤ n → n ≤ 9223372036854775807 → Below w.heap.size w W → Calls Tryz.prog 149 #[.int .i64 n, .int .i64 d] W fun e w' => e = .returned (.string (M.octal n d)) ∧ Below w.heap.size w w') := fun n d W a b hb =>
    (iOctal_any n d W a b (ht.below hb)).mono fun e w' h => ⟨h.1, hb.trans (h.2.mono hb.size)⟩
  have HX : Hid (∀ (n : Int) (d : Nat), 1 ≤ d → d ≤ 20 → M.octal n d = ⟨#[]⟩ ∧ ((M.octal n d).toList == []) = true ∨ (0 ≤ n ∧ n < (8 ^ d : Nat)) ∧ ((M.octal n d).toList == []) = false) := fun n d h1 h2 => by
    by_cases hh : 0 ≤ n ∧ n < (8 ^ d : Nat)
    · exact .inr ⟨hh, by rw [M.octal_ok hh.1 hh.2 h1 h2]; exact M.eq_empty_no (by rw [Lib.size_eq]; simp [M.octT_len]; omega)⟩
    · have := M.octal_bad (n := n) (d := d) (by omega) h1 h2
      exact .inl ⟨this, by rw [this, ByteArray.toList_eq]; rfl⟩
  have HB0 : Hid (Below w.heap.size w w) := Below.refl _ _
  have x1 := HX.out mode 7 (by decide) (by decide)
  have x2 := HX.out size 11 (by decide) (by decide)
  have x3 := HX.out time 11 (by decide) (by decide)
  clear ht HX
  have Hh : Hid (¬ (name.size ≤ 100 ∧ (0 ≤ size ∧ size ≤ 8589934591) ∧ (0 ≤ mode ∧ mode ≤ 2097151) ∧ (0 ≤ time ∧ time ≤ 8589934591) ∧ (0 ≤ kind ∧ kind ≤ 255))) := h
  clear h
  go_enter Tryz.func98, Tryz.ntmps98
  go_wp2_with fail
  refine (HO.out mode 7 _ m1 m2 HB0.out).mono ?_
  rintro e w1 ⟨rfl, hb⟩
  have HB1 : Hid (Below w.heap.size w w1) := hb
  clear hb HB0
  go_wp2_with fail
  refine (HO.out size 11 _ s1 s2 HB1.out).mono ?_
  rintro e w2 ⟨rfl, hb⟩
  have HB2 : Hid (Below w.heap.size w w2) := hb
  clear hb HB1
  go_wp2_with fail
  refine (HO.out time 11 _ t1 t2 HB2.out).mono ?_
  rintro e w3 ⟨rfl, hb⟩
  have HB3 : Hid (Below w.heap.size w w3) := hb
  clear hb HB2 HO
  change (M.octal mode 7 = _ ∧ _ ∨ (0 ≤ mode ∧ mode < 2097152) ∧ _) at x1
  change (M.octal size 11 = _ ∧ _ ∨ (0 ≤ size ∧ size < 8589934592) ∧ _) at x2
  change (M.octal time 11 = _ ∧ _ ∨ (0 ≤ time ∧ time < 8589934592) ∧ _) at x3
  generalize M.octal mode 7 = y1 at x1 ⊢
  generalize M.octal size 11 = y2 at x2 ⊢
  generalize M.octal time 11 = y3 at x3 ⊢
  by_cases h0 : 100 < name.size
  · clear x1 x2 x3
    go_wp2
    go_ret
    exact ⟨rfl, HB3.out⟩
  rcases x1 with ⟨rfl, x1⟩ | ⟨g1, x1⟩
  · clear x2 x3
    go_wp2
    go_ret
    exact ⟨rfl, HB3.out⟩
  rcases x2 with ⟨rfl, x2⟩ | ⟨g2, x2⟩
  · clear x3
    go_wp2
    go_ret
    exact ⟨rfl, HB3.out⟩
  rcases x3 with ⟨rfl, x3⟩ | ⟨g3, x3⟩
  · go_wp2
    go_ret
    exact ⟨rfl, HB3.out⟩
  rcases (show kind < 0 ∨ 255 < kind from by have := Hh.out; omega) with hk | hk
  · go_wp2
    go_ret
    exact ⟨rfl, HB3.out⟩
  · have d1 : decide (kind < 0) = false := decide_eq_false (by omega)
    have d2 : decide (255 < kind) = true := decide_eq_true hk
    go_wp2
    go_ret
    exact ⟨rfl, HB3.out⟩
end Go.Proofs.YtephjmlcbpfnaaaGreatDoor

/-
  What HeaderOf of the program does where all fits.
-/
namespace Go.Proofs.YtephjmlcbpfnaaaGreatDoor
open Go.RowKit

set_option maxRecDepth 100000 in
set_option maxHeartbeats 3200000 in
/-- Where all of the five fit. -/
theorem iHeadOf_yes (name : ByteArray) (size mode time kind : Nat) (w : World) (h0 : name.size ≤ 100) (h1 : size ≤ 8589934591) (h2 : mode ≤ 2097151) (h3 : time ≤ 8589934591) (h4 : kind ≤ 255) (ht : M.tz w) :
    Calls Tryz.prog 98 #[.string name, .int .i64 size, .int .i64 mode, .int .i64 time, .int .i64 kind] w fun e w' => e = .returned (.string (M.head name size mode time kind)) ∧ Below w.heap.size w w' := by
  have HO : Hid (∀ (n d : Nat) W, n < 8 ^ d → 1 ≤ d → d ≤ 20 → n ≤ 9223372036854775807 → Below w.heap.size w W → Calls Tryz.prog 149 #[.int .i64 n, .int .i64 d] W fun e w' => e = .returned (.string ⟨(M.octT d n).toArray⟩) ∧ Below w.heap.size w w') := fun n d W hn a b h9 hb =>
    (iOctal_any n d W (by omega) (by omega) (ht.below hb)).mono fun e w' h => ⟨by rw [h.1, M.octal_ok (by omega) (by omega) a b, Int.toNat_natCast], hb.trans (h.2.mono hb.size)⟩
  have HP : Hid (∀ (b : Nat) (L : List UInt8) (at' : Nat) (t : ByteArray) (W : World), L.length = 512 → at' + t.size ≤ 512 → at' < 512 → M.Arr W b 113 L →
    Calls Tryz.prog 150 #[.pointer (some ⟨b, 0, none⟩), .int .i64 at', .string t] W fun e w' => e = .returned (.tuple #[]) ∧ (M.over L at' t.data.toList).length = 512 ∧ M.Arr w' b 113 (M.over L at' t.data.toList) ∧ ∀ (B : Nat) (a : World), B ≤ b → Below B a W → Below B a w') := iPut_any
  have HS : Hid (∀ (b : Nat) (L : List UInt8) (W : World), L.length = 512 → M.Arr W b 113 L → Below w.heap.size w W →
    Calls Tryz.prog 115 #[.pointer (some ⟨b, 0, none⟩)] W fun e w' => e = .returned (.string (M.octB (M.sumH ⟨L.toArray⟩) 6 ++ ⟨#[0, 32]⟩)) ∧ Below W.heap.size W w') := fun b L W hL H hb => iSumT_any b L W hL H (ht.below hb)
  have hz := (zero_of_info Tryz.infoH).1
  have HB0 : Hid (Below w.heap.size w w) := Below.refl _ _
  clear ht
  obtain ⟨y1, e1⟩ : ∃ y : ByteArray, y = ⟨(M.octT 7 mode).toArray⟩ := ⟨_, rfl⟩
  obtain ⟨y2, e2⟩ : ∃ y : ByteArray, y = ⟨(M.octT 11 size).toArray⟩ := ⟨_, rfl⟩
  obtain ⟨y3, e3⟩ : ∃ y : ByteArray, y = ⟨(M.octT 11 time).toArray⟩ := ⟨_, rfl⟩
  obtain ⟨y0, e0⟩ : ∃ y : ByteArray, y = ⟨(M.octT 7 0).toArray⟩ := ⟨_, rfl⟩
  have z1 : y1.size = 7 := by rw [e1, Lib.size_eq]; simp [M.octT_len]
  have z2 : y2.size = 11 := by rw [e2, Lib.size_eq]; simp [M.octT_len]
  have z3 : y3.size = 11 := by rw [e3, Lib.size_eq]; simp [M.octT_len]
  have z0 : y0.size = 7 := by rw [e0, Lib.size_eq]; simp [M.octT_len]
  have E1 : Hid (y1 = ⟨(M.octT 7 mode).toArray⟩) := e1
  have E2 : Hid (y2 = ⟨(M.octT 11 size).toArray⟩) := e2
  have E3 : Hid (y3 = ⟨(M.octT 11 time).toArray⟩) := e3
  have E0 : Hid (y0 = ⟨(M.octT 7 0).toArray⟩) := e0
  have x1 : (y1.toList == []) = false := M.eq_empty_no (by omega)
  have x2 : (y2.toList == []) = false := M.eq_empty_no (by omega)
  have x3 : (y3.toList == []) = false := M.eq_empty_no (by omega)
  clear e1 e2 e3 e0
  go_enter Tryz.func98, Tryz.ntmps98
  go_wp2_with fail
  refine (HO.out mode 7 _ (by omega) (by decide) (by decide) (by omega) HB0.out).mono ?_
  rintro e w1 ⟨rfl, hb⟩
  rw [← E1.out]
  have HB1 : Hid (Below w.heap.size w w1) := hb
  clear hb HB0
  go_wp2_with fail
  refine (HO.out size 11 _ (by omega) (by decide) (by decide) (by omega) HB1.out).mono ?_
  rintro e w2 ⟨rfl, hb⟩
  rw [← E2.out]
  have HB2 : Hid (Below w.heap.size w w2) := hb
  clear hb HB1
  go_wp2_with fail
  refine (HO.out time 11 _ (by omega) (by decide) (by decide) (by omega) HB2.out).mono ?_
  rintro e w3 ⟨rfl, hb⟩
  rw [← E3.out]
  have HB3 : Hid (Below w.heap.size w w3) := hb
  clear hb HB2
  have d0 : decide (100 < (name.size : Int)) = false := decide_eq_false (by omega)
  have d1 : decide ((kind : Int) < 0) = false := decide_eq_false (by omega)
  have d2 : decide (255 < (kind : Int)) = false := decide_eq_false (by omega)
  go_wp2_with fail
  refine (HO.out 0 7 _ (by decide) (by decide) (by decide) (by omega) HB3.out).mono ?_
  rintro e w4 ⟨rfl, hb⟩
  rw [← E0.out]
  have HA0 : Hid (M.Arr (w4.alloc (.cells M.zer 113)) w4.heap.size 113 (List.replicate 512 0)) := M.arr_made w4 _ _
  have HL0 : Hid ((List.replicate 512 (0 : UInt8)).length = 512) := List.length_replicate
  have hbk : w.heap.size ≤ w4.heap.size := hb.size
  have HB0 : Hid (Below w.heap.size w (w4.alloc (.cells M.zer 113))) := hb.alloc hb.size _
  clear hb HB3 HO d0 d1 d2
  go_wp2_with fail
  refine (HP.out w4.heap.size (List.replicate 512 0) 0 name _ HL0.out (by omega) (by decide) HA0.out).mono ?_
  rintro e u1 ⟨rfl, hl, ha, hbb⟩
  have HL1 : Hid (List.length (M.over (List.replicate 512 0) 0 name.data.toList) = 512) := hl
  have HA1 : Hid (M.Arr u1 w4.heap.size 113 (M.over (List.replicate 512 0) 0 name.data.toList)) := ha
  have HB1 : Hid (Below w.heap.size w u1) := hbb _ _ hbk HB0.out
  clear hl ha hbb HL0 HA0 HB0
  go_wp2_with fail
  refine (HP.out w4.heap.size (M.over (List.replicate 512 0) 0 name.data.toList) 100 y1 _ HL1.out (by omega) (by decide) HA1.out).mono ?_
  rintro e u2 ⟨rfl, hl, ha, hbb⟩
  have HL2 : Hid (List.length (M.over (M.over (List.replicate 512 0) 0 name.data.toList) 100 y1.data.toList) = 512) := hl
  have HA2 : Hid (M.Arr u2 w4.heap.size 113 (M.over (M.over (List.replicate 512 0) 0 name.data.toList) 100 y1.data.toList)) := ha
  have HB2 : Hid (Below w.heap.size w u2) := hbb _ _ hbk HB1.out
  clear hl ha hbb HL1 HA1 HB1
  go_wp2_with fail
  refine (HP.out w4.heap.size (M.over (M.over (List.replicate 512 0) 0 name.data.toList) 100 y1.data.toList) 108 y0 _ HL2.out (by omega) (by decide) HA2.out).mono ?_
  rintro e u3 ⟨rfl, hl, ha, hbb⟩
  have HL3 : Hid (List.length (M.over (M.over (M.over (List.replicate 512 0) 0 name.data.toList) 100 y1.data.toList) 108 y0.data.toList) = 512) := hl
  have HA3 : Hid (M.Arr u3 w4.heap.size 113 (M.over (M.over (M.over (List.replicate 512 0) 0 name.data.toList) 100 y1.data.toList) 108 y0.data.toList)) := ha
  have HB3 : Hid (Below w.heap.size w u3) := hbb _ _ hbk HB2.out
  clear hl ha hbb HL2 HA2 HB2
  go_wp2_with fail
  refine (HP.out w4.heap.size (M.over (M.over (M.over (List.replicate 512 0) 0 name.data.toList) 100 y1.data.toList) 108 y0.data.toList) 116 y0 _ HL3.out (by omega) (by decide) HA3.out).mono ?_
  rintro e u4 ⟨rfl, hl, ha, hbb⟩
  have HL4 : Hid (List.length (M.over (M.over (M.over (M.over (List.replicate 512 0) 0 name.data.toList) 100 y1.data.toList) 108 y0.data.toList) 116 y0.data.toList) = 512) := hl
  have HA4 : Hid (M.Arr u4 w4.heap.size 113 (M.over (M.over (M.over (M.over (List.replicate 512 0) 0 name.data.toList) 100 y1.data.toList) 108 y0.data.toList) 116 y0.data.toList)) := ha
  have HB4 : Hid (Below w.heap.size w u4) := hbb _ _ hbk HB3.out
  clear hl ha hbb HL3 HA3 HB3
  go_wp2_with fail
  refine (HP.out w4.heap.size (M.over (M.over (M.over (M.over (List.replicate 512 0) 0 name.data.toList) 100 y1.data.toList) 108 y0.data.toList) 116 y0.data.toList) 124 y2 _ HL4.out (by omega) (by decide) HA4.out).mono ?_
  rintro e u5 ⟨rfl, hl, ha, hbb⟩
  have HL5 : Hid (List.length (M.over (M.over (M.over (M.over (M.over (List.replicate 512 0) 0 name.data.toList) 100 y1.data.toList) 108 y0.data.toList) 116 y0.data.toList) 124 y2.data.toList) = 512) := hl
  have HA5 : Hid (M.Arr u5 w4.heap.size 113 (M.over (M.over (M.over (M.over (M.over (List.replicate 512 0) 0 name.data.toList) 100 y1.data.toList) 108 y0.data.toList) 116 y0.data.toList) 124 y2.data.toList)) := ha
  have HB5 : Hid (Below w.heap.size w u5) := hbb _ _ hbk HB4.out
  clear hl ha hbb HL4 HA4 HB4
  go_wp2_with fail
  refine (HP.out w4.heap.size (M.over (M.over (M.over (M.over (M.over (List.replicate 512 0) 0 name.data.toList) 100 y1.data.toList) 108 y0.data.toList) 116 y0.data.toList) 124 y2.data.toList) 136 y3 _ HL5.out (by omega) (by decide) HA5.out).mono ?_
  rintro e u6 ⟨rfl, hl, ha, hbb⟩
  have HL6 : Hid (List.length (M.over (M.over (M.over (M.over (M.over (M.over (List.replicate 512 0) 0 name.data.toList) 100 y1.data.toList) 108 y0.data.toList) 116 y0.data.toList) 124 y2.data.toList) 136 y3.data.toList) = 512) := hl
  have HA6 : Hid (M.Arr u6 w4.heap.size 113 (M.over (M.over (M.over (M.over (M.over (M.over (List.replicate 512 0) 0 name.data.toList) 100 y1.data.toList) 108 y0.data.toList) 116 y0.data.toList) 124 y2.data.toList) 136 y3.data.toList)) := ha
  have HB6 : Hid (Below w.heap.size w u6) := hbb _ _ hbk HB5.out
  clear hl ha hbb HL5 HA5 HB5
  obtain ⟨P, HP8⟩ : ∃ P, Hid (P = M.over ((M.over (M.over (M.over (M.over (M.over (M.over (List.replicate 512 0) 0 name.data.toList) 100 y1.data.toList) 108 y0.data.toList) 116 y0.data.toList) 124 y2.data.toList) 136 y3.data.toList).set 156 (UInt8.ofNat kind)) 257 (⟨#[117, 115, 116, 97, 114, 0, 48, 48]⟩ : ByteArray).data.toList) := ⟨_, rfl⟩
  have g0 := HA6.out.row.cell 156 (by rw [HL6.out]; decide)
  have f0 := HA6.out.row.free 156 (by rw [HL6.out]; decide)
  generalize Value.int .u8 _ = v0 at g0
  have hwr : IntKind.u8.wrap (kind : Int) = (kind : Int) := by rw [IntKind.wrap_u8]; omega
  have HA7 : Hid (M.Arr (u6.setCell ⟨w4.heap.size, 156, none⟩ (.int .u8 (kind : Int))) w4.heap.size 113 ((M.over (M.over (M.over (M.over (M.over (M.over (List.replicate 512 0) 0 name.data.toList) 100 y1.data.toList) 108 y0.data.toList) 116 y0.data.toList) 124 y2.data.toList) 136 y3.data.toList).set 156 (UInt8.ofNat kind))) := by
    have := HA6.out.set 156 (UInt8.ofNat kind)
    rwa [show M.u8 (UInt8.ofNat kind) = .int .u8 (kind : Int) by unfold M.u8; rw [UInt8.toNat_ofNat', Nat.mod_eq_of_lt (show kind < 2 ^ 8 by omega)]] at this
  have HL7 : Hid (List.length ((M.over (M.over (M.over (M.over (M.over (M.over (List.replicate 512 0) 0 name.data.toList) 100 y1.data.toList) 108 y0.data.toList) 116 y0.data.toList) 124 y2.data.toList) 136 y3.data.toList).set 156 (UInt8.ofNat kind)) = 512) := by show _ = _; rw [List.length_set]; exact HL6.out
  have HB7 : Hid (Below w.heap.size w (u6.setCell ⟨w4.heap.size, 156, none⟩ (.int .u8 (kind : Int)))) := HB6.out.setCell hbk _
  clear HL6 HA6 HB6
  go_wp2_with fail
  refine (HP.out w4.heap.size ((M.over (M.over (M.over (M.over (M.over (M.over (List.replicate 512 0) 0 name.data.toList) 100 y1.data.toList) 108 y0.data.toList) 116 y0.data.toList) 124 y2.data.toList) 136 y3.data.toList).set 156 (UInt8.ofNat kind)) 257 (⟨#[117, 115, 116, 97, 114, 0, 48, 48]⟩ : ByteArray) _ HL7.out (by decide) (by decide) HA7.out).mono ?_
  rintro e u8 ⟨rfl, hl, ha, hbb⟩
  rw [← HP8.out] at hl ha
  have HL8 : Hid (P.length = 512) := hl
  have HA8 : Hid (M.Arr u8 w4.heap.size 113 P) := ha
  have HB8 : Hid (Below w.heap.size w u8) := hbb _ _ hbk HB7.out
  clear hl ha hbb HL7 HA7 HB7 g0 f0 hwr
  go_wp2_with fail
  refine (HS.out w4.heap.size P _ HL8.out HA8.out HB8.out).mono ?_
  rintro e u9 ⟨rfl, hb⟩
  have HA9 : Hid (M.Arr u9 w4.heap.size 113 P) := HA8.out.below hb HA8.out.lt
  have HB9 : Hid (Below w.heap.size w u9) := HB8.out.trans (hb.mono HB8.out.size)
  obtain ⟨sm, hsm⟩ : ∃ sm, sm = M.octB (M.sumH ⟨P.toArray⟩) 6 ++ ⟨#[0, 32]⟩ := ⟨_, rfl⟩
  have hsz : sm.size ≤ 8 := by
    rw [hsm, ByteArray.size_append]
    have := M.octB_size (M.sumH ⟨P.toArray⟩) 6
    show _ + 2 ≤ 8
    omega
  have HSM : Hid (sm = M.octB (M.sumH ⟨P.toArray⟩) 6 ++ ⟨#[0, 32]⟩) := hsm
  rw [← hsm]
  clear hb hsm HA8 HB8
  go_wp2_with fail
  refine (HP.out w4.heap.size P 148 sm _ HL8.out (by omega) (by decide) HA9.out).mono ?_
  rintro e u10 ⟨rfl, hl, ha, hbb⟩
  have HB10 : Hid (Below w.heap.size w u10) := hbb _ _ hbk HB9.out
  have hcv := M.head_conv hl ha
  have HF : Hid (M.head name size mode time kind = ⟨(M.over P 148 sm.data.toList).toArray⟩) := by
    show _ = _
    rw [HSM.out]
    refine M.head_final h0 (by omega) (by omega) (by omega) ?_
    rw [HP8.out, E1.out, E2.out, E3.out, E0.out]
    rfl
  generalize (⟨(M.over P 148 sm.data.toList).toArray⟩ : ByteArray) = r at hcv HF
  clear hl ha hbb HL8 HA9 HB9
  go_wp2
  go_ret
  exact ⟨by rw [HF.out]; rfl, HB10.out⟩
end Go.Proofs.YtephjmlcbpfnaaaGreatDoor
