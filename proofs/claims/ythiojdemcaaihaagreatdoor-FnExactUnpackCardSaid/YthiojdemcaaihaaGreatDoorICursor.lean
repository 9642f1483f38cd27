/-
  What the program's methods of a cursor do: left, here, skip.
-/
import Derived.Test.YthiojdemcaaihaaGreatDoorPart10
import Derived.Test.YthiojdemcaaihaaGreatDoorPart13
import Derived.Test.YthiojdemcaaihaaGreatDoorCurMath
import Derived.Deep.RegionWith
import Derived.Deep.QuietTactic
import Derived.BigQuiet
namespace Go.Proofs.YthiojdemcaaihaaGreatDoor
open Go.RowKit

set_option maxRecDepth 100000 in
set_option maxHeartbeats 400000 in
theorem iLeft_any (g : Nat) (t : ByteArray) (k : Nat) (w : World) (H : M.Cur w g t k) (ht : t.size ≤ 100000) (hk : k * 512 ≤ 100000) :
    Calls Tryz.prog 28 #[.pointer (some ⟨g, 0, none⟩)] w fun e w' => e = .returned (.int .i64 ((t.size : Int) - (k : Int) * 512)) ∧ ∃ n, w' = w.drewN n := by
  obtain ⟨c0, c1, _⟩ := H
  go_enter Tryz.func28, Tryz.ntmps28
  go_wp2
  go_quiet (fail)
  go_wp2
  go_ret
  exact ⟨rfl, _, rfl⟩

set_option maxRecDepth 100000 in
set_option maxHeartbeats 400000 in
theorem iHere_any (g : Nat) (t : ByteArray) (k n : Nat) (w : World) (H : M.Cur w g t k) (ht : t.size ≤ 100000) (hk : k * 512 + n ≤ t.size) :
    Calls Tryz.prog 30 #[.pointer (some ⟨g, 0, none⟩), .int .i64 n] w fun e w' => e = .returned (.string (t.extract (k * 512) (k * 512 + n))) ∧ Below w.heap.size w w' := by
  have HP : Hid (Calls Tryz.prog 50 #[.string t, .int .i64 (k * 512 : Nat), .int .i64 (k * 512 + n : Nat)] w fun e w' => e = .returned (.string (t.extract (k * 512) (k * 512 + n))) ∧ Below w.heap.size w w') := pieceOf_any t (k * 512) (k * 512 + n) w (by omega) (by omega) hk
  obtain ⟨c0, c1, _⟩ := H
  have e1 : (k : Int) * 512 = ((k * 512 : Nat) : Int) := by omega
  generalize hx : t.extract (k * 512) (k * 512 + n) = x at HP ⊢
  obtain ⟨q, hq⟩ : ∃ q, q = k * 512 := ⟨_, rfl⟩
  rw [← hq] at HP e1 hk
  have HP2 : Hid (Calls Tryz.prog 50 #[.string t, .int .i64 (q : Int), .int .i64 ((q : Int) + (n : Int))] w fun e w' => e = .returned (.string x) ∧ Below w.heap.size w w') := by
    have := HP.out
    rwa [show ((q + n : Nat) : Int) = (q : Int) + (n : Int) by omega] at this
  clear hx hq HP
  go_enter Tryz.func30, Tryz.ntmps30
  go_wp2_with fail
  refine HP2.out.mono ?_
  rintro e w1 ⟨rfl, hb⟩
  have HB : Hid (Below w.heap.size w w1) := hb
  clear hb
  go_wp2
  go_ret
  exact ⟨rfl, HB.out⟩

set_option maxRecDepth 100000 in
set_option maxHeartbeats 600000 in
theorem iSkip_any (g : Nat) (t : ByteArray) (k n : Nat) (w : World) (H : M.Cur w g t k) (hn : n ≤ 100000000000) (hk : k ≤ 100000) :
    Calls Tryz.prog 36 #[.pointer (some ⟨g, 0, none⟩), .int .i64 n] w fun e w' => e = .returned (.tuple #[]) ∧ ∃ d, w' = (w.setCell ⟨g, 1, none⟩ (.int .i64 ((k + (n + 511) / 512 : Nat) : Int))).drewN d := by
  have HB : Hid (∀ W, Calls Tryz.prog 34 #[.int .i64 n] W fun e w' => e = .returned (.int .i64 ((n + 511) / 512 : Nat)) ∧ W = w') := fun W => iBlocks_any n W hn
  obtain ⟨c0, c1, f1⟩ := H
  obtain ⟨q, hq⟩ : ∃ q, q = (n + 511) / 512 := ⟨_, rfl⟩
  rw [← hq] at HB ⊢
  have hq9 : q ≤ 1000000000 := by rw [hq]; omega
  clear hq
  go_enter Tryz.func36, Tryz.ntmps36
  go_wp2_with fail
  go_region_with (go_at_call 34; refine (HB.out _).mono ?_; rintro e w' ⟨rfl, rfl⟩)
  all_goals
    have hwr : IntKind.i64.wrap ((k : Int) + (q : Int)) = ((k + q : Nat) : Int) := by rw [IntKind.wrap_i64]; omega
    rw [hwr]
    exact bodyPost_end (v := .tuple #[]) (by simp [results, Tryz.results36]) rfl ⟨rfl, 1, rfl⟩
end Go.Proofs.YthiojdemcaaihaaGreatDoor
