/-
  What markFileS and heldFileS of the laws do: the first writes marks into a row of files, the second tells whether they are there.
-/
import Derived.Test.YtbmbcfnlpbbapagDoorMarkText
import Derived.Test.YtbmbcfnlpbbapagDoorFileMath
import Derived.Test.YtbmbcfnlpbbapagDoorOpenFiles
import Derived.WalkKit
import Derived.WalkSpells
import Derived.WalkLawsBesides
namespace Go.Proofs.YtbmbcfnlpbbapagDoor
open Go.RowKit

/-- The file that a mark makes. -/
def M.mark (k : Nat) : M.FileD := ⟨M.mt k, ((k : Int) + 1) % 3 == 0, (k : Int) + 1 + 1, (k : Int) + 1 + 1 + 1, M.mt (k + 4)⟩
def M.marks (n k : Nat) : List M.FileD := (List.range n).map fun i => M.mark (k + 5 * i)
theorem M.marks_snoc (i k : Nat) : M.marks (i + 1) k = M.marks i k ++ [M.mark (k + 5 * i)] := by simp [M.marks, List.range_succ]
theorem M.marks_len (i k : Nat) : (M.marks i k).length = i := by simp [M.marks]
theorem M.set_block_eq {W W' : World} {g o : Nat} {v : Value} (h : W.heap[g]? = W'.heap[g]?) : (W.setCell ⟨g, o, none⟩ v).heap[g]? = (W'.setCell ⟨g, o, none⟩ v).heap[g]? := by
  simp only [World.setCell, Array.getElem?_modify, h]
theorem M.grown_set {w W : World} {g o : Nat} {v : Value} (h : w.grownBy W (some g)) : w.grownBy (W.setCell ⟨g, o, none⟩ v) (some g) :=
  ⟨h.os, h.tape, h.output, by simp only [World.setCell, Array.size_modify]; exact h.size, fun i hi hne => by
    simp only [World.setCell, Array.getElem?_modify]
    rw [if_neg (fun e => hne (by rw [e]))]
    exact h.block i hi hne⟩

set_option maxRecDepth 100000 in
set_option maxHeartbeats 3200000 in
theorem mark_any (w : World) (g len cap N : Nat) (k : Nat) (hr : M.Row w g 31 N) (hN : len * 5 ≤ N) (hlen : len ≤ 1048576) (hk1 : 1 ≤ k) (hk : k ≤ 10) :
    Calls Tryd.prog 19 #[.slice (some ⟨g, 0, none⟩) len cap, .int .i64 k] w fun e w' => e = .returned (.int .i64 ((k + 5 * len : Nat) : Int)) ∧ M.FilesAt w' g 0 (M.marks len k) ∧ M.Row w' g 31 N ∧ w.grownBy w' (some g) := by
  have HR : Hid (M.Row w g 31 N) := hr
  clear hr
  go_enter Tryd.func19, Tryd.ntmps19
  go_wp2
  go_loopw [1, 5] (fun x y wr => ∃ (i K : Nat), x = .int .i64 K ∧ y = .int .i64 i ∧ i ≤ len ∧ K = k + 5 * i ∧ Hid (M.FilesAt wr g 0 (M.marks i k)) ∧ Hid (M.Row wr g 31 N) ∧ Hid (w.grownBy wr (some g))) (fun _ y _ => len - (intOf y).toNat)
  case atStart => exact ⟨0, k, rfl, rfl, Nat.zero_le _, by omega, fun i hi => by simp [M.marks] at hi, HR, ⟨rfl, rfl, rfl, Nat.le_refl _, fun _ _ _ => rfl⟩⟩
  case round =>
    obtain ⟨i, K, rfl, rfl, hi, hK, HFr, HRr, HGr⟩ := hrel
    by_cases hlt : i < len
    · have HKK : Hid (K = k + 5 * i) := hK
      have hK1 : 1 ≤ K := by omega
      have hK2 : K ≤ 10000000 := by omega
      have HT : Hid (∀ (n : Nat) W, 1 ≤ n → n ≤ 100000000 → Calls Tryd.prog 38 #[.int .i64 n] W fun e w' => e = .returned (.string (M.mt n)) ∧ Below W.heap.size W w') := fun n W h1 h2 => markText_any n W h1 h2
      clear hK
      go_wp2_with fail
      refine (HT.out K wr hK1 (by omega)).mono ?_
      rintro e w1 ⟨rfl, hb1⟩
      have hblk := hb1.block g HRr.out.lt
      have hR1 := HRr.out.of_block hblk
      have HR1 : Hid (M.Row w1 g 31 N) := hR1
      have HF1 : Hid (M.FilesAt w1 g 0 (M.marks i k)) := HFr.out.of_block hblk
      have HG1 : Hid (w.grownBy w1 (some g)) := HGr.out.trans ⟨hb1.os, hb1.tape, hb1.output, hb1.size, fun k hk _ => hb1.block k hk⟩
      obtain ⟨v0, g0⟩ := hR1.cell (i := i * 5) (by omega)
      obtain ⟨v1, g1⟩ := hR1.cell (i := i * 5 + 1) (by omega)
      obtain ⟨v2, g2⟩ := hR1.cell (i := i * 5 + 2) (by omega)
      obtain ⟨v3, g3⟩ := hR1.cell (i := i * 5 + 3) (by omega)
      have e0 := hR1.free (i * 5)
      have e1 := hR1.free (i * 5 + 1)
      have e2 := hR1.free (i * 5 + 2)
      have e3 := hR1.free (i * 5 + 3)
      clear hb1 hblk hR1
      have h4 : ∀ W, Calls Tryd.prog 38 #[.int .i64 ((K : Int) + 1 + 1 + 1 + 1)] W fun e w' => e = .returned (.string (M.mt (K + 4))) ∧ Below W.heap.size W w' := fun W => by
        have := HT.out (K + 4) W (by omega) (by omega)
        rwa [show ((K + 4 : Nat) : Int) = (K : Int) + 1 + 1 + 1 + 1 by omega] at this
      have H4 : Hid (∀ W, Calls Tryd.prog 38 #[.int .i64 ((K : Int) + 1 + 1 + 1 + 1)] W fun e w' => e = .returned (.string (M.mt (K + 4))) ∧ Below W.heap.size W w') := h4
      clear h4
      go_wp2_with fail
      refine (H4.out _).mono ?_
      rintro e w2 ⟨rfl, hb2⟩
      have hRW : M.Row ((((w1.setCell ⟨g, i * 5, none⟩ (.string (M.mt K))).setCell ⟨g, i * 5 + 1, none⟩ (.bool (((K : Int) + 1) % 3 == 0))).setCell ⟨g, i * 5 + 2, none⟩ (.int .i64 ((K : Int) + 1 + 1))).setCell ⟨g, i * 5 + 3, none⟩ (.int .i64 ((K : Int) + 1 + 1 + 1))) g 31 N := (((HR1.out.setCell _ _).setCell _ _).setCell _ _).setCell _ _
      have hblk2 := hb2.block g hRW.lt
      have hR2 := hRW.of_block hblk2
      obtain ⟨v4, g4⟩ := hR2.cell (i := i * 5 + 4) (by omega)
      have e4 := hR2.free (i * 5 + 4)
      have HF2 : Hid (M.FilesAt (w2.setCell ⟨g, i * 5 + 4, none⟩ (.string (M.mt (K + 4)))) g 0 (M.marks (i + 1) k)) := by
        have hp := M.FilesAt.push (off := 0) (k := i) (f := M.mark K) HF1.out HR1.out (M.marks_len i k) (by omega)
        simp only [Nat.zero_add] at hp
        show M.FilesAt _ _ _ _
        rw [M.marks_snoc, ← HKK.out]
        exact M.FilesAt.of_block hp (M.set_block_eq hblk2)
      have HR2 : Hid (M.Row (w2.setCell ⟨g, i * 5 + 4, none⟩ (.string (M.mt (K + 4)))) g 31 N) := hR2.setCell _ _
      have HG2 : Hid (w.grownBy (w2.setCell ⟨g, i * 5 + 4, none⟩ (.string (M.mt (K + 4)))) (some g)) :=
        M.grown_set ((M.grown_set (M.grown_set (M.grown_set (M.grown_set HG1.out)))).trans ⟨hb2.os, hb2.tape, hb2.output, hb2.size, fun k hk _ => hb2.block k hk⟩)
      clear hRW hblk2 hR2 hb2 g0 g1 g2 g3 e0 e1 e2 e3
      go_wp2
      go_roundw
      case rel => exact ⟨i + 1, K + 5, by go_num, by go_num, by omega, by have := HKK.out; omega, HF2, HR2, HG2⟩
      case measure => simp [intOf]; omega
    · have HE : Hid (K = k + 5 * len) := by show _ = _; rw [hK, show i = len by omega]
      have hil : i = len := by omega
      subst hil
      go_wp2
      go_ret
      exact ⟨by rw [← HE.out]; rfl, HFr.out, HRr.out, HGr.out⟩
end Go.Proofs.YtbmbcfnlpbbapagDoor
