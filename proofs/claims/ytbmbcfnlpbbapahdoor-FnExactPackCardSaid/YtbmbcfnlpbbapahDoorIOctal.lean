/-
  What FormatInt of the library does to the base of eight, and Octal of the program.
-/
import Derived.Test.YtbmbcfnlpbbapahDoorIBits
import Derived.Test.YtbmbcfnlpbbapahDoorShelf
import Derived.Lib.Repeat
namespace Go.Proofs.YtbmbcfnlpbbapahDoor
open Go.RowKit

set_option maxRecDepth 100000 in
set_option maxHeartbeats 800000 in
theorem fint_in (n : Nat) (w : World) (hn : n ≤ 9223372036854775807) (ht : M.tz w) :
    Calls Tryd.prog 30 #[.int .i64 n, .int .i64 8] w fun e w' => ∃ L, M.OctL n L ∧ e = .returned (.string ⟨(M.octT L n).toArray⟩) ∧ Below w.heap.size w w' := by
  have H : Hid (Calls Tryd.prog 52 #[.slice none 0 0, .int .u64 n, .int .i64 8, .bool false, .bool false] w fun e w' => ∃ L, M.OctL n L ∧ e = .returned (.tuple #[.slice none 0 0, .string ⟨(M.octT L n).toArray⟩]) ∧ Below w.heap.size w w') := fbits_any n w hn ht
  clear ht
  go_enter Tryd.func30, Tryd.ntmps30
  go_wp2_with fail
  refine H.out.mono ?_
  rintro e w1 ⟨L, hL, rfl, hb⟩
  have HL : Hid (M.OctL n L ∧ Below w.heap.size w w1) := ⟨hL, hb⟩
  clear hL hb
  go_wp2
  go_ret
  exact ⟨L, HL.out.1, rfl, HL.out.2⟩
set_option maxRecDepth 100000 in
set_option maxHeartbeats 800000 in
theorem fint_any (n : Nat) (w : World) (hn : n ≤ 9223372036854775807) (ht : M.tz w) :
    Calls Tryd.prog 16 #[.int .i64 n, .int .i64 8] w fun e w' => ∃ L, M.OctL n L ∧ e = .returned (.string ⟨(M.octT L n).toArray⟩) ∧ Below w.heap.size w w' := by
  have H : Hid (Calls Tryd.prog 30 #[.int .i64 n, .int .i64 8] w fun e w' => ∃ L, M.OctL n L ∧ e = .returned (.string ⟨(M.octT L n).toArray⟩) ∧ Below w.heap.size w w') := fint_in n w hn ht
  clear ht
  go_enter Tryd.func16, Tryd.ntmps16
  go_wp2_with fail
  refine H.out.mono ?_
  rintro e w1 ⟨L, hL, rfl, hb⟩
  have HL : Hid (M.OctL n L ∧ Below w.heap.size w w1) := ⟨hL, hb⟩
  clear hL hb
  go_wp2
  go_ret
  exact ⟨L, HL.out.1, rfl, HL.out.2⟩

theorem M.rep0 (c : Nat) : (⟨(Lib.repeatL (⟨#[48]⟩ : ByteArray).data.toList c).toArray⟩ : ByteArray) = ⟨(List.replicate c (48 : UInt8)).toArray⟩ := by
  congr 2
  show Lib.repeatL [48] c = _
  induction c with
  | zero => rfl
  | succ c ih => rw [List.replicate_succ, ← ih]; rfl
theorem M.join_L (a b : List UInt8) : (⟨a.toArray⟩ : ByteArray) ++ ⟨b.toArray⟩ = ⟨(a ++ b).toArray⟩ := by
  apply ByteArray.ext
  simp [ByteArray.data_append]

set_option maxRecDepth 100000 in
set_option maxHeartbeats 400000 in
theorem iOctal_any (n d : Int) (w : World) (h1 : -9223372036854775808 ≤ n) (h2 : n ≤ 9223372036854775807) (ht : M.tz w) :
    Calls Tryd.prog 7 #[.int .i64 n, .int .i64 d] w fun e w' => e = .returned (.string (M.octal n d)) ∧ Below w.heap.size w w' := by
  by_cases ha : n < 0
  · have hE : Hid (M.octal n d = ⟨#[]⟩) := M.octal_no (.inl ha)
    go_enter Tryd.func7, Tryd.ntmps7
    go_wp2
    go_ret
    exact ⟨by rw [hE.out]; rfl, Below.refl _ _⟩
  by_cases hb : d < 1
  · have hE : Hid (M.octal n d = ⟨#[]⟩) := M.octal_no (.inr (.inl hb))
    have d1 : decide (d < 1) = true := decide_eq_true hb
    go_enter Tryd.func7, Tryd.ntmps7
    go_wp2
    go_ret
    exact ⟨by rw [hE.out]; rfl, Below.refl _ _⟩
  have d1 : decide (d < 1) = false := decide_eq_false hb
  by_cases hc : 20 < d
  · have hE : Hid (M.octal n d = ⟨#[]⟩) := M.octal_no (.inr (.inr hc))
    have d2 : decide (20 < d) = true := decide_eq_true hc
    go_enter Tryd.func7, Tryd.ntmps7
    go_wp2
    go_ret
    exact ⟨by rw [hE.out]; rfl, Below.refl _ _⟩
  have d2 : decide (20 < d) = false := decide_eq_false hc
  obtain ⟨N, rfl⟩ : ∃ N : Nat, n = N := ⟨n.toNat, by omega⟩
  obtain ⟨D, rfl⟩ : ∃ D : Nat, d = D := ⟨d.toNat, by omega⟩
  have hE : Hid (M.octal N D = M.octB N D) := M.octal_yes (by omega) (by omega)
  have HO : Hid (Calls Tryd.prog 16 #[.int .i64 N, .int .i64 8] w fun e w' => ∃ L, M.OctL N L ∧ e = .returned (.string ⟨(M.octT L N).toArray⟩) ∧ Below w.heap.size w w') := fint_any N w (by omega) ht
  clear ht
  go_enter Tryd.func7, Tryd.ntmps7
  go_wp2_with fail
  refine HO.out.mono ?_
  rintro e w1 ⟨L, hL, rfl, hb1⟩
  have hL21 : L ≤ 21 := hL.le (by omega)
  have HB : Hid (Below w.heap.size w w1) := hb1
  have HL : Hid (M.OctL N L) := hL
  obtain ⟨t, ht⟩ : ∃ t : ByteArray, t = ⟨(M.octT L N).toArray⟩ := ⟨_, rfl⟩
  have hsz : t.size = L := by rw [ht, Lib.size_eq]; simp [M.octT_len]
  have Ht : Hid (t = ⟨(M.octT L N).toArray⟩) := ht
  rw [← ht]
  clear hb1 hL ht
  by_cases hLD : D < L
  · have hx : Hid (M.octB N D = ⟨#[]⟩) := HL.out.text_no (by omega) hLD
    go_wp2
    go_ret
    exact ⟨by rw [hE.out, hx.out]; rfl, HB.out⟩
  · have hx : Hid (M.octB N D = ⟨(List.replicate (D - L) (48 : UInt8)).toArray⟩ ++ t) := by
      show _ = _
      rw [HL.out.text (by omega), Ht.out, M.join_L]
    have HR : Hid (∀ W, Calls Tryd.prog 17 #[.string ⟨#[48]⟩, .int .i64 ((D - L : Nat) : Int)] W fun e w' => e = .returned (.string ⟨(List.replicate (D - L) (48 : UInt8)).toArray⟩) ∧ Below W.heap.size W w') := fun W => by
      have := Tryd.strings_Repeat ⟨#[48]⟩ (D - L) W (by omega) (by show 1 * _ ≤ _; omega)
      rw [M.rep0] at this
      exact this
    have hsub : (D : Int) - (L : Int) = ((D - L : Nat) : Int) := by omega
    have hz1 : (⟨(List.replicate (D - L) (48 : UInt8)).toArray⟩ : ByteArray).size ≤ 20 := by rw [Lib.size_eq]; simp; omega
    go_wp2_with fail
    refine (HR.out _).mono ?_
    rintro e w2 ⟨rfl, hb2⟩
    have HB2 : Hid (Below w.heap.size w w2) := HB.out.trans (hb2.mono HB.out.size)
    generalize (⟨(List.replicate (D - L) (48 : UInt8)).toArray⟩ : ByteArray) = z at hz1 hx
    clear hb2 hsub
    go_wp2
    go_ret
    exact ⟨by rw [hE.out, hx.out]; rfl, HB2.out⟩
end Go.Proofs.YtbmbcfnlpbbapahDoor
