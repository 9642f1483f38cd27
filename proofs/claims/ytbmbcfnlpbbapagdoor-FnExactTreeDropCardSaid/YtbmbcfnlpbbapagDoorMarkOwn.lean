/-
  Marks in a row of the call's own.
-/
import Derived.Test.YtbmbcfnlpbbapagDoorHeldWalk
import Derived.Test.YtbmbcfnlpbbapagDoorOwnMath
import Derived.Test.YtbmbcfnlpbbapagDoorEqFiles
import Derived.WalkKit
import Derived.WalkSpells
import Derived.WalkLawsBesides
namespace Go.Proofs.YtbmbcfnlpbbapagDoor
open Go.RowKit

theorem M.own_of {w : World} {g cap base : Nat} {T : TypeId} {gs : List M.FileD} (hat : M.FilesAt w g 0 gs) (hr : M.Row w g T (cap * 5)) (hb : base ≤ g) (hn : gs.length ≤ cap) (hc : cap ≤ maxLen) : M.Own w base T (.slice (some ⟨g, 0, none⟩) gs.length cap) gs := by
  obtain ⟨cur, hh, hz⟩ := hr
  refine ⟨M.cellsF_len gs, .inr ⟨g, cap, cur, rfl, hb, hh, hn, hc, hz, ?_⟩⟩
  apply List.ext_getElem?
  intro t
  by_cases h : t < gs.length * 5
  · rw [List.getElem?_take_of_lt h]
    have hl : t < (M.cellsF gs).length := by rw [M.cellsF_len]; exact h
    have hc := hat.cells t _ (List.getElem?_eq_getElem hl)
    rw [Addr.add_lit, Nat.zero_add] at hc
    rw [List.getElem?_eq_getElem hl, ← hc]
    simp [World.cell?, hh]
  · rw [List.getElem?_eq_none (by rw [List.length_take]; exact Nat.le_trans (Nat.min_le_left _ _) (by omega)), List.getElem?_eq_none (by rw [M.cellsF_len]; omega)]

set_option maxRecDepth 100000 in
set_option maxHeartbeats 1600000 in
theorem mark_nil (w : World) (k : Nat) : Calls Tryd.prog 19 #[.slice none 0 0, .int .i64 k] w fun e w' => e = .returned (.int .i64 k) ∧ w = w' := by
  go_enter Tryd.func19, Tryd.ntmps19
  go_wp2
  go_loopw [1, 5] (fun x y wr => x = .int .i64 k ∧ y = .int .i64 0 ∧ w = wr) (fun _ _ _ => 0)
  case atStart => exact ⟨rfl, rfl, rfl⟩
  case round =>
    obtain ⟨rfl, rfl, rfl⟩ := hrel
    go_wp2
    go_ret
    exact ⟨rfl, rfl⟩

theorem mark_own (w : World) (base : Nat) (v : Value) (gs : List M.FileD) (k : Nat) (h : M.Own w base 31 v gs) (hlen : gs.length ≤ 1048576) (hk1 : 1 ≤ k) (hk : k ≤ 10) :
    Calls Tryd.prog 19 #[v, .int .i64 k] w fun e w' => e = .returned (.int .i64 ((k + 5 * gs.length : Nat) : Int)) ∧ M.Own w' base 31 v (M.marks gs.length k) ∧ w.grownBy w' v.ownBlock := by
  obtain ⟨hl, ⟨rfl, h0⟩ | ⟨g, cap, cur, rfl, hb, hh, hn, hc, hz, ht⟩⟩ := h
  · refine (mark_nil w k).mono ?_
    rintro e w' ⟨rfl, rfl⟩
    rw [h0]
    exact ⟨by simp, ⟨rfl, .inl ⟨rfl, rfl⟩⟩, ⟨rfl, rfl, rfl, Nat.le_refl _, fun _ _ _ => rfl⟩⟩
  · refine (mark_any w g gs.length cap (cap * 5) k ⟨cur, hh, hz⟩ (Nat.mul_le_mul_right 5 hn) hlen hk1 hk).mono ?_
    rintro e w' ⟨rfl, hat, hr, hg⟩
    refine ⟨rfl, ?_, hg⟩
    have := M.own_of (base := base) hat hr hb (by rw [M.marks_len]; exact hn) hc
    rwa [M.marks_len] at this
theorem held_own (w : World) (base : Nat) (v : Value) (n k : Nat) (h : M.Own w base 31 v (M.marks n k)) (hlen : n ≤ 1048576) (hk1 : 1 ≤ k) (hk : k ≤ 10) :
    Calls Tryd.prog 20 #[v, .int .i64 k] w fun e w' => e = .returned (.int .i64 ((k + 5 * n : Nat) : Int)) ∧ Below w.heap.size w w' := by
  obtain ⟨a, cap, rfl, hf⟩ := h.files
  rw [M.marks_len] at hf ⊢
  exact held_any w a n cap k hf hlen hk1 hk
theorem eq_own (w : World) (b1 b2 : Nat) (v1 v2 : Value) (gs : List M.FileD) (h1 : M.Own w b1 31 v1 gs) (h2 : M.Own w b2 31 v2 gs) :
    Calls Tryd.prog 13 #[v1, v2] w fun e w' => e = .returned (.bool true) ∧ Below w.heap.size w w' := by
  obtain ⟨a1, c1, rfl, f1⟩ := h1.files
  obtain ⟨a2, c2, rfl, f2⟩ := h2.files
  refine (eqFileS_any w a1 a2 _ c1 _ c2 gs gs f1 f2).mono ?_
  rintro e w' ⟨u, rfl, hu, hb⟩
  exact ⟨by rw [hu.2 rfl], hb⟩
end Go.Proofs.YtbmbcfnlpbbapagDoor
