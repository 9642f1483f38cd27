/-
  What heldFileS of the laws does: it tells that the marks are there.
-/
import Derived.Test.YtbmbcfnlpbbapagDoorMarkWalk
import Derived.Test.YtbmbcfnlpbbapagDoorWide
import Derived.WalkKit
import Derived.WalkSpells
import Derived.WalkLawsBesides
namespace Go.Proofs.YtbmbcfnlpbbapagDoor
open Go.RowKit

set_option maxRecDepth 100000 in
set_option maxHeartbeats 3200000 in
theorem held_any (w : World) (a : Option Addr) (len cap : Nat) (k : Nat) (h : M.Files w a len cap (M.marks len k)) (hlen : len ≤ 1048576) (hk1 : 1 ≤ k) (hk : k ≤ 10) :
    Calls Tryd.prog 20 #[.slice a len cap, .int .i64 k] w fun e w' => e = .returned (.int .i64 ((k + 5 * len : Nat) : Int)) ∧ Below w.heap.size w w' := by
  have HF : Hid (M.Files w a len cap (M.marks len k)) := h
  clear h
  go_enter Tryd.func20, Tryd.ntmps20
  go_wp2
  go_loopw [1, 5] (fun x y wr => ∃ (i K : Nat), x = .int .i64 K ∧ y = .int .i64 i ∧ i ≤ len ∧ K = k + 5 * i ∧ Hid (Below w.heap.size w wr)) (fun _ y _ => len - (intOf y).toNat)
  case atStart => exact ⟨0, k, rfl, rfl, Nat.zero_le _, by omega, Below.refl _ _⟩
  case round =>
    obtain ⟨i, K, rfl, rfl, hi, hK, HBr⟩ := hrel
    by_cases hlt : i < len
    · have HKK : Hid (K = k + 5 * i) := hK
      have hK1 : 1 ≤ K := by omega
      have hK2 : K ≤ 10000000 := by omega
      obtain ⟨-, -, -, hfa⟩ := HF.out.below HBr.out
      obtain ⟨b, off, rfl, hat⟩ := hfa (by omega)
      obtain ⟨c0, c1, c2, c3, c4⟩ := hat i (by rw [M.marks_len]; exact hlt)
      have hmk : (M.marks len k)[i]'(by rw [M.marks_len]; exact hlt) = M.mark K := by simp [M.marks, hK]
      rw [hmk] at c0 c1 c2 c3 c4
      simp only [M.mark] at c0 c1 c2 c3 c4
      have hT := fun W => markText_any K W hK1 (by omega)
      have hT4 : ∀ W, Calls Tryd.prog 38 #[.int .i64 ((K : Int) + 1 + 1 + 1 + 1)] W fun e w' => e = .returned (.string (M.mt (K + 4))) ∧ Below W.heap.size W w' := fun W => by
        have := markText_any (K + 4) W (by omega) (by omega)
        rwa [show ((K + 4 : Nat) : Int) = (K : Int) + 1 + 1 + 1 + 1 by omega] at this
      have HT : Hid (∀ W, Calls Tryd.prog 38 #[.int .i64 K] W fun e w' => e = .returned (.string (M.mt K)) ∧ Below W.heap.size W w') := hT
      have HT4 : Hid (∀ W, Calls Tryd.prog 38 #[.int .i64 ((K : Int) + 1 + 1 + 1 + 1)] W fun e w' => e = .returned (.string (M.mt (K + 4))) ∧ Below W.heap.size W w') := hT4
      clear hK hfa hat hmk hT hT4
      have q0 := M.Wd.cell c0
      go_wp2_with fail
      refine M.wp_region_wd (by kernel_rfl) (by kernel_rfl) (fun _ => ?_)
      repeat (first | go_big_quiet_skip | (go_big_quiet_want; go_big_quiet_op; first | go_big_quiet_on | (apply Exists.intro; refine ⟨fun x => ?_, ?_⟩; exact M.Wd.call x (HT.out _); go_big_quiet_on)))
      refine wpQuiet_nil ?_
      intro w2 hw'
      have hb2 : Below wr.heap.size wr w2 := by obtain ⟨x, rfl⟩ := hw'; exact x.bel
      clear hw'
      have HB2 : Hid (Below w.heap.size w w2) := HBr.out.trans (hb2.mono HBr.out.size)
      have t1 : w2.cell? ⟨b, off + i * 5 + 1, none⟩ = _ := (hb2.cell (World.block_lt_of_cell? wr _ c1)).trans c1
      have t2 : w2.cell? ⟨b, off + i * 5 + 2, none⟩ = _ := (hb2.cell (World.block_lt_of_cell? wr _ c2)).trans c2
      have t3 : w2.cell? ⟨b, off + i * 5 + 3, none⟩ = _ := (hb2.cell (World.block_lt_of_cell? wr _ c3)).trans c3
      have t4 : w2.cell? ⟨b, off + i * 5 + 4, none⟩ = _ := (hb2.cell (World.block_lt_of_cell? wr _ c4)).trans c4
      clear hb2 c0 c1 c2 c3 c4 q0 HBr
      go_wp2_with fail
      have q4 := M.Wd.cell t4
      clear t1 t2 t3 t4
      refine M.wp_region_wd (by kernel_rfl) (by kernel_rfl) (fun _ => ?_)
      repeat (first | go_big_quiet_skip | (go_big_quiet_want; go_big_quiet_op; first | go_big_quiet_on | (apply Exists.intro; refine ⟨fun x => ?_, ?_⟩; exact M.Wd.call x (HT4.out _); go_big_quiet_on)))
      refine wpQuiet_nil ?_
      intro w3 hw'
      have hb3 : Below w2.heap.size w2 w3 := by obtain ⟨x, rfl⟩ := hw'; exact x.bel
      clear hw'
      have HB3 : Hid (Below w.heap.size w w3) := HB2.out.trans (hb3.mono HB2.out.size)
      clear hb3 q4 HB2
      go_wp2
      go_roundw
      case rel => exact ⟨i + 1, K + 5, by go_num, by go_num, by omega, by have := HKK.out; omega, HB3⟩
      case measure => simp [intOf]; omega
    · have HE : Hid (K = k + 5 * len) := by show _ = _; rw [hK, show i = len by omega]
      go_wp2
      go_ret
      exact ⟨by rw [← HE.out]; rfl, HBr.out⟩
end Go.Proofs.YtbmbcfnlpbbapagDoor
