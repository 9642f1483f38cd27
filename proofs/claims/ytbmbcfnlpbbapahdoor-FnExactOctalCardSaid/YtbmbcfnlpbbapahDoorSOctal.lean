/-
  What Octal of the specification does.
-/
import Derived.Test.YtbmbcfnlpbbapahDoorSOct
import Derived.WalkKit
import Derived.WalkSpells
import Derived.WalkLawsBesides
import Derived.Lib.SlBuf
namespace Go.Proofs.YtbmbcfnlpbbapahDoor
open Go.RowKit

set_option maxRecDepth 100000 in
set_option maxHeartbeats 800000 in
theorem sOctal_any (n d : Int) (w : World) (h1 : -9223372036854775808 ≤ n) (h2 : n ≤ 9223372036854775807) :
    Calls Tryd.prog 6 #[.int .i64 n, .int .i64 d] w fun e w' => e = .returned (.string (M.octal n d)) ∧ Below w.heap.size w w' := by
  by_cases ha : n < 0
  · have hE : Hid (M.octal n d = ⟨#[]⟩) := M.octal_no (.inl ha)
    go_enter Tryd.func6, Tryd.ntmps6
    go_wp2
    go_ret
    exact ⟨by rw [hE.out]; rfl, Below.refl _ _⟩
  by_cases hb : d < 1
  · have hE : Hid (M.octal n d = ⟨#[]⟩) := M.octal_no (.inr (.inl hb))
    have d1 : decide (d < 1) = true := decide_eq_true hb
    go_enter Tryd.func6, Tryd.ntmps6
    go_wp2
    go_ret
    exact ⟨by rw [hE.out]; rfl, Below.refl _ _⟩
  have d1 : decide (d < 1) = false := decide_eq_false hb
  by_cases hc : 20 < d
  · have hE : Hid (M.octal n d = ⟨#[]⟩) := M.octal_no (.inr (.inr hc))
    have d2 : decide (20 < d) = true := decide_eq_true hc
    go_enter Tryd.func6, Tryd.ntmps6
    go_wp2
    go_ret
    exact ⟨by rw [hE.out]; rfl, Below.refl _ _⟩
  have d2 : decide (20 < d) = false := decide_eq_false hc
  obtain ⟨N, rfl⟩ : ∃ N : Nat, n = N := ⟨n.toNat, by omega⟩
  obtain ⟨D, rfl⟩ : ∃ D : Nat, d = D := ⟨d.toNat, by omega⟩
  have hE : Hid (M.octal N D = M.octB N D) := M.octal_yes (by omega) (by omega)
  have HO : Hid (Calls Tryd.prog 15 #[.int .i64 N, .int .i64 D] w fun e w' => e = .returned (.string (M.octB N D)) ∧ Below w.heap.size w w') := sOct_any N D w (by omega) (by omega)
  go_enter Tryd.func6, Tryd.ntmps6
  go_wp2_with fail
  refine HO.out.mono ?_
  rintro e w1 ⟨rfl, hb1⟩
  have HB : Hid (Below w.heap.size w w1) := hb1
  clear hb1
  go_wp2
  go_ret
  exact ⟨by rw [hE.out]; rfl, HB.out⟩

end Go.Proofs.YtbmbcfnlpbbapahDoor
