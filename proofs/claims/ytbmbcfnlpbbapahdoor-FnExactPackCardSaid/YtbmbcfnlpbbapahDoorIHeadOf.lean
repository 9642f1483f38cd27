/-
  What HeaderOf of the program does.
-/
import Derived.Test.YtbmbcfnlpbbapahDoorIPut
namespace Go.Proofs.YtbmbcfnlpbbapahDoor
open Go.RowKit

theorem M.eq_empty_no {x : ByteArray} (h : ¬ x.size = 0) : (x.toList == []) = false := by
  rw [beq_eq_false_iff_ne]
  intro e
  apply h
  rw [Lib.size_eq, ← ByteArray.toList_eq, e]; rfl
theorem M.head_conv {w : World} {b : Nat} {L : List UInt8} (hL : L.length = 512) (H : M.Arr w b 37 L) : (convert 40 9 (.slice (some ⟨b, 0, none⟩) 512 512)).run Tryd.prog w = .ok (.string ⟨L.toArray⟩) w := by
  have := run_convert_bytes_back w 40 9 5 ⟨b, 0, none⟩ 512 L Tryd.underlying40 Tryd.underlying5 Tryd.underlying9 (fun i hi => by
    rw [Addr.add_lit, Nat.zero_add]
    exact H.row.cell i hi)
  rwa [hL] at this
theorem M.headerOf_no {name : ByteArray} {size mode time kind : Int} (h : ¬ (name.size ≤ 100 ∧ (0 ≤ size ∧ size ≤ 8589934591) ∧ (0 ≤ mode ∧ mode ≤ 2097151) ∧ (0 ≤ time ∧ time ≤ 8589934591) ∧ (0 ≤ kind ∧ kind ≤ 255))) : M.headerOf name size mode time kind = ⟨#[]⟩ := by
  unfold M.headerOf; rw [if_neg h]

set_option maxRecDepth 100000 in
set_option maxHeartbeats 1600000 in
/-- Where one of the five does not fit. -/
theorem iHeadOf_no (name : ByteArray) (size mode time kind : Int) (w : World) (hn : name.size ≤ maxLen) (s1 : -9223372036854775808 ≤ size) (s2 : size ≤ 9223372036854775807) (m1 : -9223372036854775808 ≤ mode) (m2 : mode ≤ 9223372036854775807)
    (t1 : -9223372036854775808 ≤ time) (t2 : time ≤ 9223372036854775807) (ht : M.tz w)
    (h : ¬ (name.size ≤ 100 ∧ (0 ≤ size ∧ size ≤ 8589934591) ∧ (0 ≤ mode ∧ mode ≤ 2097151) ∧ (0 ≤ time ∧ time ≤ 8589934591) ∧ (0 ≤ kind ∧ kind ≤ 255))) :
    Calls Tryd.prog 9 #[.string name, .int .i64 size, .int .i64 mode, .int .i64 time, .int .i64 kind] w fun e w' => e = .returned (.string ⟨#[]⟩) ∧ Below w.heap.size w w' := by
  unfold maxLen at hn
  have HO : Hid (∀ (n d : Int) W, -9223372036854775808 ≤ n → n ≤ 9223372036854775807 → Below w.heap.size w W → Calls Tryd.prog 7 #[.int .i64 n, .int .i64 d] W fun e w' => e = .returned (.string (M.octal n d)) ∧ Below w.heap.size w w') := fun n d W a b hb =>
    (iOctal_any n d W a b (ht.below hb)).mono fun e w' h => ⟨h.1, hb.trans (h.2.mono hb.size)⟩
  have HX : Hid (∀ (n : Int) (d : Nat), 1 ≤ d → d ≤ 20 → M.octal n d = ⟨#[]⟩ ∧ ((M.octal n d).toList == []) = true ∨ (0 ≤ n ∧ n < (8 ^ d : Nat)) ∧ ((M.octal n d).toList == []) = false) := fun n d h1 h2 => by
    by_cases hh : 0 ≤ n ∧ n < (8 ^ d : Nat)
    · exact .inr ⟨hh, by rw [M.octal_ok hh.1 hh.2 h1 h2]; exact M.eq_empty_no (by rw [Lib.size_eq]; simp [M.octT_len]; omega)⟩
    · have := M.octal_bad (n := n) (d := d) (by omega) h1 h2
      exact .inl ⟨this, by rw [this, ByteArray.toList_eq]; rfl⟩
  have HB0 : Hid (Below w.heap.size w w) := Below.refl _ _
  have x1 := HX.out mode 7 (by decide) (by decide)
  have x2 := HX.out size 11 (by decide) (by decide)
  have x3 := HX.out time 11 (by decide) (by decide)
  clear ht HX
  have Hh : Hid (¬ (name.size ≤ 100 ∧ (0 ≤ size ∧ size ≤ 8589934591) ∧ (0 ≤ mode ∧ mode ≤ 2097151) ∧ (0 ≤ time ∧ time ≤ 8589934591) ∧ (0 ≤ kind ∧ kind ≤ 255))) := h
  clear h
  go_enter Tryd.func9, Tryd.ntmps9
  go_wp2_with fail
  refine (HO.out mode 7 _ m1 m2 HB0.out).mono ?_
  rintro e w1 ⟨rfl, hb⟩
  have HB1 : Hid (Below w.heap.size w w1) := hb
  clear hb HB0
  go_wp2_with fail
  refine (HO.out size 11 _ s1 s2 HB1.out).mono ?_
  rintro e w2 ⟨rfl, hb⟩
  have HB2 : Hid (Below w.heap.size w w2) := hb
  clear hb HB1
  go_wp2_with fail
  refine (HO.out time 11 _ t1 t2 HB2.out).mono ?_
  rintro e w3 ⟨rfl, hb⟩
  have HB3 : Hid (Below w.heap.size w w3) := hb
  clear hb HB2 HO
  change (M.octal mode 7 = _ ∧ _ ∨ (0 ≤ mode ∧ mode < 2097152) ∧ _) at x1
  change (M.octal size 11 = _ ∧ _ ∨ (0 ≤ size ∧ size < 8589934592) ∧ _) at x2
  change (M.octal time 11 = _ ∧ _ ∨ (0 ≤ time ∧ time < 8589934592) ∧ _) at x3
  generalize M.octal mode 7 = y1 at x1 ⊢
  generalize M.octal size 11 = y2 at x2 ⊢
  generalize M.octal time 11 = y3 at x3 ⊢
  by_cases h0 : 100 < name.size
  · clear x1 x2 x3
    go_wp2
    go_ret
    exact ⟨rfl, HB3.out⟩
  rcases x1 with ⟨rfl, x1⟩ | ⟨g1, x1⟩
  · clear x2 x3
    go_wp2
    go_ret
    exact ⟨rfl, HB3.out⟩
  rcases x2 with ⟨rfl, x2⟩ | ⟨g2, x2⟩
  · clear x3
    go_wp2
    go_ret
    exact ⟨rfl, HB3.out⟩
  rcases x3 with ⟨rfl, x3⟩ | ⟨g3, x3⟩
  · go_wp2
    go_ret
    exact ⟨rfl, HB3.out⟩
  rcases (show kind < 0 ∨ 255 < kind from by have := Hh.out; omega) with hk | hk
  · go_wp2
    go_ret
    exact ⟨rfl, HB3.out⟩
  · have d1 : decide (kind < 0) = false := decide_eq_false (by omega)
    have d2 : decide (255 < kind) = true := decide_eq_true hk
    go_wp2
    go_ret
    exact ⟨rfl, HB3.out⟩
end Go.Proofs.YtbmbcfnlpbbapahDoor
