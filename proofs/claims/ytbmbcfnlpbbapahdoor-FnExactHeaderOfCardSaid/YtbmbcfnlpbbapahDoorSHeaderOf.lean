/-
  What HeaderOf of the specification does.
-/
import Derived.Test.YtbmbcfnlpbbapahDoorSHeader
import Derived.Test.YtbmbcfnlpbbapahDoorSIs
namespace Go.Proofs.YtbmbcfnlpbbapahDoor
open Go.RowKit

set_option maxRecDepth 100000 in
set_option maxHeartbeats 1600000 in
theorem sHeadOf_any (name : ByteArray) (size mode time kind : Int) (w : World) (hn : name.size ≤ maxLen) :
    Calls Tryd.prog 8 #[.string name, .int .i64 size, .int .i64 mode, .int .i64 time, .int .i64 kind] w fun e w' => e = .returned (.string (M.headerOf name size mode time kind)) ∧ Below w.heap.size w w' := by
  unfold maxLen at hn
  have HI : Hid (∀ (x hi : Int) (b : Bool) W, decide (0 ≤ x ∧ x ≤ hi) = b → Calls Tryd.prog 18 #[.int .i64 x, .int .i64 0, .int .i64 hi] W fun e w' => e = .returned (.bool b) ∧ W = w') := fun x hi b W hb => by
    have := sIs_any x 0 hi W; rwa [hb] at this
  have HE : Hid (∀ h : ¬ (name.size ≤ 100 ∧ (0 ≤ size ∧ size ≤ 8589934591) ∧ (0 ≤ mode ∧ mode ≤ 2097151) ∧ (0 ≤ time ∧ time ≤ 8589934591) ∧ (0 ≤ kind ∧ kind ≤ 255)), M.headerOf name size mode time kind = ⟨#[]⟩) := fun h => by unfold M.headerOf; rw [if_neg h]
  by_cases h0 : 100 < name.size
  · have hE := HE.out (by omega)
    have hE' : Hid (M.headerOf name size mode time kind = ⟨#[]⟩) := hE
    clear hE
    go_enter Tryd.func8, Tryd.ntmps8
    go_wp2
    go_ret
    exact ⟨by rw [hE'.out]; rfl, Below.refl _ _⟩
  have d0 : decide (100 < (name.size : Int)) = false := decide_eq_false (by omega)
  by_cases h1 : 0 ≤ size ∧ size ≤ 8589934591
  case neg =>
    have hE : Hid (M.headerOf name size mode time kind = ⟨#[]⟩) := HE.out (by omega)
    have H1 : Hid (decide (0 ≤ size ∧ size ≤ 8589934591) = false) := decide_eq_false h1
    clear h1
    go_enter Tryd.func8, Tryd.ntmps8
    go_wp2_with fail
    refine (HI.out _ _ _ _ H1.out).mono ?_
    rintro e w1 ⟨rfl, rfl⟩
    go_wp2
    go_ret
    exact ⟨by rw [hE.out]; rfl, Below.refl _ _⟩
  have H1 : Hid (decide (0 ≤ size ∧ size ≤ 8589934591) = true) := decide_eq_true h1
  by_cases h2 : 0 ≤ mode ∧ mode ≤ 2097151
  case neg =>
    have hE : Hid (M.headerOf name size mode time kind = ⟨#[]⟩) := HE.out (by omega)
    have H2 : Hid (decide (0 ≤ mode ∧ mode ≤ 2097151) = false) := decide_eq_false h2
    clear h1 h2
    go_enter Tryd.func8, Tryd.ntmps8
    go_wp2_with fail
    refine (HI.out _ _ _ _ H1.out).mono ?_
    rintro e w1 ⟨rfl, rfl⟩
    go_wp2_with fail
    refine (HI.out _ _ _ _ H2.out).mono ?_
    rintro e w2 ⟨rfl, rfl⟩
    go_wp2
    go_ret
    exact ⟨by rw [hE.out]; rfl, Below.refl _ _⟩
  have H2 : Hid (decide (0 ≤ mode ∧ mode ≤ 2097151) = true) := decide_eq_true h2
  by_cases h3 : 0 ≤ time ∧ time ≤ 8589934591
  case neg =>
    have hE : Hid (M.headerOf name size mode time kind = ⟨#[]⟩) := HE.out (by omega)
    have H3 : Hid (decide (0 ≤ time ∧ time ≤ 8589934591) = false) := decide_eq_false h3
    clear h1 h2 h3
    go_enter Tryd.func8, Tryd.ntmps8
    go_wp2_with fail
    refine (HI.out _ _ _ _ H1.out).mono ?_
    rintro e w1 ⟨rfl, rfl⟩
    go_wp2_with fail
    refine (HI.out _ _ _ _ H2.out).mono ?_
    rintro e w2 ⟨rfl, rfl⟩
    go_wp2_with fail
    refine (HI.out _ _ _ _ H3.out).mono ?_
    rintro e w3 ⟨rfl, rfl⟩
    go_wp2
    go_ret
    exact ⟨by rw [hE.out]; rfl, Below.refl _ _⟩
  have H3 : Hid (decide (0 ≤ time ∧ time ≤ 8589934591) = true) := decide_eq_true h3
  by_cases h4 : 0 ≤ kind ∧ kind ≤ 255
  case neg =>
    have hE : Hid (M.headerOf name size mode time kind = ⟨#[]⟩) := HE.out (by omega)
    have H4 : Hid (decide (0 ≤ kind ∧ kind ≤ 255) = false) := decide_eq_false h4
    clear h1 h2 h3 h4
    go_enter Tryd.func8, Tryd.ntmps8
    go_wp2_with fail
    refine (HI.out _ _ _ _ H1.out).mono ?_
    rintro e w1 ⟨rfl, rfl⟩
    go_wp2_with fail
    refine (HI.out _ _ _ _ H2.out).mono ?_
    rintro e w2 ⟨rfl, rfl⟩
    go_wp2_with fail
    refine (HI.out _ _ _ _ H3.out).mono ?_
    rintro e w3 ⟨rfl, rfl⟩
    go_wp2_with fail
    refine (HI.out _ _ _ _ H4.out).mono ?_
    rintro e w4 ⟨rfl, rfl⟩
    go_wp2
    go_ret
    exact ⟨by rw [hE.out]; rfl, Below.refl _ _⟩
  have H4 : Hid (decide (0 ≤ kind ∧ kind ≤ 255) = true) := decide_eq_true h4
  obtain ⟨a, rfl⟩ : ∃ a : Nat, size = a := ⟨size.toNat, by omega⟩
  obtain ⟨b, rfl⟩ : ∃ b : Nat, mode = b := ⟨mode.toNat, by omega⟩
  obtain ⟨c, rfl⟩ : ∃ c : Nat, time = c := ⟨time.toNat, by omega⟩
  obtain ⟨d, rfl⟩ : ∃ d : Nat, kind = d := ⟨kind.toNat, by omega⟩
  have hE : Hid (M.headerOf name a b c d = M.head name a b c d) := by
    show _ = _; unfold M.headerOf; rw [if_pos ⟨by omega, h1, h2, h3, h4⟩]; simp only [Int.toNat_natCast]
  have HH : Hid (∀ W, Calls Tryd.prog 19 #[.string name, .int .i64 a, .int .i64 b, .int .i64 c, .int .i64 d] W fun e w' => e = .returned (.string (M.head name a b c d)) ∧ Below W.heap.size W w') := fun W => sHeader_any name a b c d W (by omega) (by omega) (by omega) (by omega) (by omega)
  clear h1 h2 h3 h4
  go_enter Tryd.func8, Tryd.ntmps8
  go_wp2_with fail
  refine (HI.out _ _ _ _ H1.out).mono ?_
  rintro e w1 ⟨rfl, rfl⟩
  go_wp2_with fail
  refine (HI.out _ _ _ _ H2.out).mono ?_
  rintro e w2 ⟨rfl, rfl⟩
  go_wp2_with fail
  refine (HI.out _ _ _ _ H3.out).mono ?_
  rintro e w3 ⟨rfl, rfl⟩
  go_wp2_with fail
  refine (HI.out _ _ _ _ H4.out).mono ?_
  rintro e w4 ⟨rfl, rfl⟩
  go_wp2_with fail
  refine (HH.out _).mono ?_
  rintro e w5 ⟨rfl, hb5⟩
  go_wp2
  go_ret
  exact ⟨by rw [hE.out]; rfl, hb5⟩
end Go.Proofs.YtbmbcfnlpbbapahDoor
