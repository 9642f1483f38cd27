/-
  What belowOf of the program, and the function that it hands back, do.
-/
import Derived.Test.YtbmbcfnlpbbapagDoorCopyS
import Derived.WalkKit
import Derived.WalkSpells
import Derived.WalkLawsBesides
namespace Go.Proofs.YtbmbcfnlpbbapagDoor
open Go.RowKit

set_option maxRecDepth 100000 in
set_option maxHeartbeats 1600000 in
theorem iBelowOf_any (p : ByteArray) (w : World) (hp : p.size ≤ 20000) :
    Calls Tryd.prog 36 #[.string p] w fun e w' => e = .returned (.func (.func 45) #[] #[.pointer (some ⟨w.heap.size, 0, none⟩)]) ∧ w'.cell? ⟨w.heap.size, 0, none⟩ = some (.string (p ++ ⟨#[47]⟩)) ∧ Below w.heap.size w w' := by
  go_enter Tryd.func36, Tryd.ntmps36
  go_wp2
  go_ret
  exact ⟨rfl, M.boxed (Below.refl _ _) 0 _ rfl, (Below.refl _ _).alloc (Nat.le_refl _) _⟩

set_option maxRecDepth 100000 in
set_option maxHeartbeats 1600000 in
theorem iBelow_any (q s : ByteArray) (H : Nat) (w : World) (h : w.cell? ⟨H, 0, none⟩ = some (.string s)) :
    Calls Tryd.prog 45 #[.string q, .pointer (some ⟨H, 0, none⟩)] w fun e w' => e = .returned (.bool (Lib.hasPrefix q.data.toList s.data.toList)) ∧ Below w.heap.size w w' := by
  have HP : Hid (∀ W, Calls Tryd.prog 46 #[.string q, .string s] W fun e w' => e = .returned (.bool (Lib.hasPrefix q.data.toList s.data.toList)) ∧ W = w') := fun W => by
    refine (Tryd.strings_HasPrefix q s W).mono ?_
    rintro e w' ⟨rfl, rfl⟩
    exact ⟨rfl, rfl⟩
  generalize Lib.hasPrefix q.data.toList s.data.toList = r at HP ⊢
  go_enter Tryd.func45, Tryd.ntmps45
  go_wp2_with (go_at_call 46; refine (HP.out _).mono ?_; rintro e w' ⟨rfl, rfl⟩)
  go_ret
  exact ⟨rfl, Below.refl _ _⟩
end Go.Proofs.YtbmbcfnlpbbapagDoor
