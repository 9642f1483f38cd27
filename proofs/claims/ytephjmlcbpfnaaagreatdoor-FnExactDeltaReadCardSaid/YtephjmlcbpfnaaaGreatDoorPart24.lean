/-
  What markStringS and heldStringS of the laws do.
-/
import Derived.Test.YtephjmlcbpfnaaaGreatDoorMarkText
import Derived.Test.YtephjmlcbpfnaaaGreatDoorOwnStr
import Derived.Test.YtephjmlcbpfnaaaGreatDoorStrWalks
import Derived.Test.YtephjmlcbpfnaaaGreatDoorPart6
import Derived.Test.YtephjmlcbpfnaaaGreatDoorPart11
import Derived.Test.YtephjmlcbpfnaaaGreatDoorWide
import Derived.Test.YtephjmlcbpfnaaaGreatDoorPart13
import Derived.Deep.RegionWith
import Derived.WalkKit
import Derived.WalkSpells
import Derived.WalkLawsBesides
namespace Go.Proofs.YtephjmlcbpfnaaaGreatDoor
open Go.RowKit

theorem M.hids {p : Prop} (h : p) : Hid p := h
/-- So many texts, those of the numbers from k on. -/
def M.mts (n k : Nat) : List ByteArray := (List.range n).map fun i => M.mt (k + i)
theorem M.mts_len (n k : Nat) : (M.mts n k).length = n := by simp [M.mts]
theorem M.mts_snoc (n k : Nat) : M.mts (n + 1) k = M.mts n k ++ [M.mt (k + n)] := by simp [M.mts, List.range_succ]
theorem M.mts_at {n k i : Nat} (h : i < (M.mts n k).length) : (M.mts n k)[i] = M.mt (k + i) := by simp [M.mts]
theorem M.grownT {w W : World} {g o : Nat} {v : Value} (h : w.grownBy W (some g)) : w.grownBy (W.setCell ⟨g, o, none⟩ v) (some g) :=
  ⟨h.os, h.tape, h.output, by have := h.size; simp [World.setCell]; omega, fun k hk hne => by
    rw [Below.heap_setCell W ⟨g, o, none⟩ v k (fun e => hne (by rw [e]))]; exact h.block k hk hne⟩

set_option maxRecDepth 100000 in
set_option maxHeartbeats 1600000 in
theorem markStringS_at (w : World) (g n cap N : Nat) (hr : M.Row w g 9 N) (hN : n ≤ N) (hl : n ≤ 1000) :
    Calls Tryz.prog 36 #[.slice (some ⟨g, 0, none⟩) n cap, .int .i64 1] w fun e w' => e = .returned (.int .i64 ((1 + n : Nat) : Int)) ∧ M.StrsAt w' g 0 (M.mts n 1) ∧ M.Row w' g 9 N ∧ w.grownBy w' (some g) := by
  have HR := M.hids hr
  clear hr
  go_enter Tryz.func36, Tryz.ntmps36
  go_wp2
  go_loopw [1, 5] (fun x y wr => ∃ (i : Nat), x = .int .i64 ((1 + i : Nat) : Int) ∧ y = .int .i64 i ∧ i ≤ n ∧ Hid (M.StrsAt wr g 0 (M.mts i 1)) ∧ Hid (M.Row wr g 9 N) ∧ Hid (w.grownBy wr (some g))) (fun _ y _ => n - (intOf y).toNat)
  case atStart => exact ⟨0, rfl, rfl, Nat.zero_le _, fun i hi => by simp [M.mts] at hi, HR, World.grownBy.refl _ _⟩
  case round =>
    obtain ⟨i, rfl, rfl, hi, HSr, HRr, HGr⟩ := hrel
    by_cases hlt : i < n
    · have HT := M.hids (fun W => markText_any (1 + i) W (by omega) (by omega))
      obtain ⟨K, hK⟩ : ∃ K, K = 1 + i := ⟨_, rfl⟩
      rw [← hK] at HT
      rw [← hK]
      have HK := M.hids hK
      have hK2 : K ≤ 2000 := by omega
      clear hK
      go_wp2_with fail
      refine (HT.out _).mono ?_
      rintro e w1 ⟨rfl, hb1⟩
      have hblk := hb1.block g HRr.out.lt
      have hR1 := HRr.out.of_block hblk
      have hS1 := HSr.out.of_block hblk
      have HG1 : Hid (w.grownBy w1 (some g)) := HGr.out.trans ⟨hb1.os, hb1.tape, hb1.output, hb1.size, fun k hk _ => hb1.block k hk⟩
      obtain ⟨v0, g0⟩ := hR1.cell (i := i) (by omega)
      have e0 := hR1.free i
      have HR2 := M.hids (hR1.setCell i (.string (M.mt K)))
      have HS2 : Hid (M.StrsAt (w1.setCell ⟨g, i, none⟩ (.string (M.mt K))) g 0 (M.mts (i + 1) 1)) := by
        have := hS1.push (k := i) (s := M.mt K) hR1 (M.mts_len i 1) (by omega)
        show M.StrsAt _ _ _ _
        rw [M.mts_snoc, ← HK.out]; exact this
      have HG2 : Hid (w.grownBy (w1.setCell ⟨g, i, none⟩ (.string (M.mt K))) (some g)) := M.grownT HG1.out
      clear hb1 hblk hR1 hS1 HT
      go_wp2
      go_roundw
      case rel => exact ⟨i + 1, by rw [show ((K : Int) + 1) = ((1 + (i + 1) : Nat) : Int) by have := HK.out; omega], by go_num, by omega, HS2, HR2, HG2⟩
      case measure => simp [intOf]; omega
    · obtain rfl : i = n := by omega
      go_wp2
      go_ret
      exact ⟨rfl, HSr.out, HRr.out, HGr.out⟩
theorem markStringS_own (w : World) (base : Nat) (v : Value) (ss : List ByteArray) (h : M.OwnS w base v ss) (hl : ss.length ≤ 1000) :
    Calls Tryz.prog 36 #[v, .int .i64 1] w fun e w' => e = .returned (.int .i64 ((1 + ss.length : Nat) : Int)) ∧ M.OwnS w' base v (M.mts ss.length 1) ∧ w.grownBy w' v.ownBlock := by
  obtain ⟨hl0, ⟨rfl, h0⟩ | ⟨g, cap, cur, rfl, hb, hh, hn, hc, hz, ht⟩⟩ := h
  · rw [h0]
    go_enter Tryz.func36, Tryz.ntmps36
    go_wp2
    go_loopw [1, 5] (fun x y wr => x = .int .i64 1 ∧ y = .int .i64 0 ∧ w = wr) (fun _ _ _ => 0)
    case atStart => exact ⟨rfl, rfl, rfl⟩
    case round =>
      obtain ⟨rfl, rfl, rfl⟩ := hrel
      go_wp2
      go_ret
      exact ⟨rfl, M.OwnS.nil _ _, World.grownBy.refl _ _⟩
  · refine (markStringS_at w g ss.length cap cap ⟨cur, hh, by rw [hz, Nat.mul_one]⟩ hn hl).mono ?_
    rintro e w' ⟨rfl, hat, ⟨cur', hh', hz'⟩, hg⟩
    refine ⟨rfl, ⟨by simp, .inr ⟨g, cap, cur', by rw [M.mts_len], hb, hh', by rw [M.mts_len]; exact hn, hc, by rw [hz', Nat.mul_one], ?_⟩⟩, hg⟩
    apply List.ext_getElem?
    intro t
    rw [M.mts_len, Nat.mul_one]
    by_cases h : t < ss.length
    · rw [List.getElem?_take_of_lt h]
      have hl2 : t < (M.mts ss.length 1).length := by rw [M.mts_len]; exact h
      have hcell := hat t hl2
      rw [Nat.zero_add] at hcell
      rw [List.getElem?_map, List.getElem?_eq_getElem hl2, Option.map_some, ← hcell]
      simp [World.cell?, hh']
    · rw [List.getElem?_eq_none (by rw [List.length_take]; exact Nat.le_trans (Nat.min_le_left _ _) (by omega)), List.getElem?_eq_none (by simp [M.mts_len]; omega)]

set_option maxRecDepth 100000 in
set_option maxHeartbeats 1600000 in
theorem heldStringS_at (w : World) (a : Option Addr) (n cap : Nat) (h : M.Strs w a n cap (M.mts n 1)) (hl : n ≤ 1000) :
    Calls Tryz.prog 38 #[.slice a n cap, .int .i64 1] w fun e w' => e = .returned (.int .i64 ((1 + n : Nat) : Int)) ∧ Below w.heap.size w w' := by
  have HF := M.hids h
  clear h
  go_enter Tryz.func38, Tryz.ntmps38
  go_wp2
  go_loopw [1, 5] (fun x y wr => ∃ (i : Nat), x = .int .i64 ((1 + i : Nat) : Int) ∧ y = .int .i64 i ∧ i ≤ n ∧ Hid (Below w.heap.size w wr)) (fun _ y _ => n - (intOf y).toNat)
  case atStart => exact ⟨0, rfl, rfl, Nat.zero_le _, Below.refl _ _⟩
  case round =>
    obtain ⟨i, rfl, rfl, hi, HBr⟩ := hrel
    by_cases hlt : i < n
    · obtain ⟨-, -, -, hfa⟩ := HF.out.below HBr.out
      obtain ⟨b, off, rfl, hat⟩ := hfa (by omega)
      have c0 := hat i (by rw [M.mts_len]; exact hlt)
      rw [M.mts_at] at c0
      have HT := M.hids (fun W => markText_any (1 + i) W (by omega) (by omega))
      obtain ⟨K, hK⟩ : ∃ K, K = 1 + i := ⟨_, rfl⟩
      rw [← hK] at HT c0
      rw [← hK]
      have HK := M.hids hK
      have hK2 : K ≤ 2000 := by omega
      clear hK
      generalize M.mt K = T at HT c0
      have ct : ∀ W, Below wr.heap.size wr W → W.cell? ⟨b, off + i, none⟩ = some (.string T) := fun W hW => (hW.cell (p := ⟨b, off + i, none⟩) (World.block_lt_of_cell? wr _ c0)).trans c0
      have CT := M.hids ct
      have hBD : Below wr.heap.size wr wr.drew := (Below.refl _ _).drew
      have BD := M.hids hBD
      have dz : (T.toList != T.toList) = false := by simp
      have dz' : (T.toList == T.toList) = true := by simp
      clear hat hfa ct hBD
      go_wp2_with fail
      go_region_with (go_at_call 68; refine (HT.out _).mono ?_; rintro e w2 ⟨rfl, hb2⟩; have c2 := CT.out w2 (BD.out.trans (hb2.mono BD.out.size)))
      all_goals
        go_wp2
        go_roundw
        case rel => exact ⟨i + 1, by rw [show ((K : Int) + 1) = ((1 + (i + 1) : Nat) : Int) by have := HK.out; omega], by go_num, by omega, HBr.out.trans ((BD.out.trans (hb2.mono BD.out.size)).mono HBr.out.size)⟩
        case measure => simp [intOf]; omega
    · obtain rfl : i = n := by omega
      go_wp2
      go_ret
      exact ⟨rfl, HBr.out⟩
theorem heldStringS_own (w : World) (base : Nat) (v : Value) (n : Nat) (h : M.OwnS w base v (M.mts n 1)) (hl : n ≤ 1000) :
    Calls Tryz.prog 38 #[v, .int .i64 1] w fun e w' => e = .returned (.int .i64 ((1 + n : Nat) : Int)) ∧ Below w.heap.size w w' := by
  obtain ⟨a, cap, rfl, hv⟩ := h.strs
  rw [M.mts_len] at hv ⊢
  exact heldStringS_at w a n cap hv hl
end Go.Proofs.YtephjmlcbpfnaaaGreatDoor

/-
  What markFileS and heldFileS of the laws do: the first writes marks into a row of files, the second tells whether they are there.
-/
namespace Go.Proofs.YtephjmlcbpfnaaaGreatDoor
open Go.RowKit

/-- The file that a mark makes. -/
def M.mark (k : Nat) : M.FileD := ⟨M.mt k, ((k : Int) + 1) % 3 == 0, (k : Int) + 1 + 1, (k : Int) + 1 + 1 + 1, M.mt (k + 4)⟩
def M.marks (n k : Nat) : List M.FileD := (List.range n).map fun i => M.mark (k + 5 * i)
theorem M.marks_snoc (i k : Nat) : M.marks (i + 1) k = M.marks i k ++ [M.mark (k + 5 * i)] := by simp [M.marks, List.range_succ]
theorem M.marks_len (i k : Nat) : (M.marks i k).length = i := by simp [M.marks]
theorem M.set_block_eq {W W' : World} {g o : Nat} {v : Value} (h : W.heap[g]? = W'.heap[g]?) : (W.setCell ⟨g, o, none⟩ v).heap[g]? = (W'.setCell ⟨g, o, none⟩ v).heap[g]? := by
  simp only [World.setCell, Array.getElem?_modify, h]
theorem M.grown_set {w W : World} {g o : Nat} {v : Value} (h : w.grownBy W (some g)) : w.grownBy (W.setCell ⟨g, o, none⟩ v) (some g) :=
  ⟨h.os, h.tape, h.output, by simp only [World.setCell, Array.size_modify]; exact h.size, fun i hi hne => by
    simp only [World.setCell, Array.getElem?_modify]
    rw [if_neg (fun e => hne (by rw [e]))]
    exact h.block i hi hne⟩

set_option maxRecDepth 100000 in
set_option maxHeartbeats 3200000 in
theorem mark_any (w : World) (g len cap N : Nat) (k : Nat) (hr : M.Row w g 54 N) (hN : len * 5 ≤ N) (hlen : len ≤ 1048576) (hk1 : 1 ≤ k) (hk : k ≤ 1000) :
    Calls Tryz.prog 37 #[.slice (some ⟨g, 0, none⟩) len cap, .int .i64 k] w fun e w' => e = .returned (.int .i64 ((k + 5 * len : Nat) : Int)) ∧ M.FilesAt w' g 0 (M.marks len k) ∧ M.Row w' g 54 N ∧ w.grownBy w' (some g) := by
  have HR : Hid (M.Row w g 54 N) := hr
  clear hr
  go_enter Tryz.func37, Tryz.ntmps37
  go_wp2
  go_loopw [1, 5] (fun x y wr => ∃ (i K : Nat), x = .int .i64 K ∧ y = .int .i64 i ∧ i ≤ len ∧ K = k + 5 * i ∧ Hid (M.FilesAt wr g 0 (M.marks i k)) ∧ Hid (M.Row wr g 54 N) ∧ Hid (w.grownBy wr (some g))) (fun _ y _ => len - (intOf y).toNat)
  case atStart => exact ⟨0, k, rfl, rfl, Nat.zero_le _, by omega, fun i hi => by simp [M.marks] at hi, HR, ⟨rfl, rfl, rfl, Nat.le_refl _, fun _ _ _ => rfl⟩⟩
  case round =>
    obtain ⟨i, K, rfl, rfl, hi, hK, HFr, HRr, HGr⟩ := hrel
    by_cases hlt : i < len
    · have HKK : Hid (K = k + 5 * i) := hK
      have hK1 : 1 ≤ K := by omega
      have hK2 : K ≤ 10000000 := by omega
      have HT : Hid (∀ (n : Nat) W, 1 ≤ n → n ≤ 100000000 → Calls Tryz.prog 68 #[.int .i64 n] W fun e w' => e = .returned (.string (M.mt n)) ∧ Below W.heap.size W w') := fun n W h1 h2 => markText_any n W h1 h2
      clear hK
      go_wp2_with fail
      refine (HT.out K wr hK1 (by omega)).mono ?_
      rintro e w1 ⟨rfl, hb1⟩
      have hblk := hb1.block g HRr.out.lt
      have hR1 := HRr.out.of_block hblk
      have HR1 : Hid (M.Row w1 g 54 N) := hR1
      have HF1 : Hid (M.FilesAt w1 g 0 (M.marks i k)) := HFr.out.of_block hblk
      have HG1 : Hid (w.grownBy w1 (some g)) := HGr.out.trans ⟨hb1.os, hb1.tape, hb1.output, hb1.size, fun k hk _ => hb1.block k hk⟩
      obtain ⟨v0, g0⟩ := hR1.cell (i := i * 5) (by omega)
      obtain ⟨v1, g1⟩ := hR1.cell (i := i * 5 + 1) (by omega)
      obtain ⟨v2, g2⟩ := hR1.cell (i := i * 5 + 2) (by omega)
      obtain ⟨v3, g3⟩ := hR1.cell (i := i * 5 + 3) (by omega)
      have e0 := hR1.free (i * 5)
      have e1 := hR1.free (i * 5 + 1)
      have e2 := hR1.free (i * 5 + 2)
      have e3 := hR1.free (i * 5 + 3)
      clear hb1 hblk hR1
      have h4 : ∀ W, Calls Tryz.prog 68 #[.int .i64 ((K : Int) + 1 + 1 + 1 + 1)] W fun e w' => e = .returned (.string (M.mt (K + 4))) ∧ Below W.heap.size W w' := fun W => by
        have := HT.out (K + 4) W (by omega) (by omega)
        rwa [show ((K + 4 : Nat) : Int) = (K : Int) + 1 + 1 + 1 + 1 by omega] at this
      have H4 : Hid (∀ W, Calls Tryz.prog 68 #[.int .i64 ((K : Int) + 1 + 1 + 1 + 1)] W fun e w' => e = .returned (.string (M.mt (K + 4))) ∧ Below W.heap.size W w') := h4
      clear h4
      go_wp2_with fail
      refine (H4.out _).mono ?_
      rintro e w2 ⟨rfl, hb2⟩
      have hRW : M.Row ((((w1.setCell ⟨g, i * 5, none⟩ (.string (M.mt K))).setCell ⟨g, i * 5 + 1, none⟩ (.bool (((K : Int) + 1) % 3 == 0))).setCell ⟨g, i * 5 + 2, none⟩ (.int .i64 ((K : Int) + 1 + 1))).setCell ⟨g, i * 5 + 3, none⟩ (.int .i64 ((K : Int) + 1 + 1 + 1))) g 54 N := (((HR1.out.setCell _ _).setCell _ _).setCell _ _).setCell _ _
      have hblk2 := hb2.block g hRW.lt
      have hR2 := hRW.of_block hblk2
      obtain ⟨v4, g4⟩ := hR2.cell (i := i * 5 + 4) (by omega)
      have e4 := hR2.free (i * 5 + 4)
      have HF2 : Hid (M.FilesAt (w2.setCell ⟨g, i * 5 + 4, none⟩ (.string (M.mt (K + 4)))) g 0 (M.marks (i + 1) k)) := by
        have hp := M.FilesAt.push (off := 0) (k := i) (f := M.mark K) HF1.out HR1.out (M.marks_len i k) (by omega)
        simp only [Nat.zero_add] at hp
        show M.FilesAt _ _ _ _
        rw [M.marks_snoc, ← HKK.out]
        exact M.FilesAt.of_block hp (M.set_block_eq hblk2)
      have HR2 : Hid (M.Row (w2.setCell ⟨g, i * 5 + 4, none⟩ (.string (M.mt (K + 4)))) g 54 N) := hR2.setCell _ _
      have HG2 : Hid (w.grownBy (w2.setCell ⟨g, i * 5 + 4, none⟩ (.string (M.mt (K + 4)))) (some g)) :=
        M.grown_set ((M.grown_set (M.grown_set (M.grown_set (M.grown_set HG1.out)))).trans ⟨hb2.os, hb2.tape, hb2.output, hb2.size, fun k hk _ => hb2.block k hk⟩)
      clear hRW hblk2 hR2 hb2 g0 g1 g2 g3 e0 e1 e2 e3
      go_wp2
      go_roundw
      case rel => exact ⟨i + 1, K + 5, by go_num, by go_num, by omega, by have := HKK.out; omega, HF2, HR2, HG2⟩
      case measure => simp [intOf]; omega
    · have HE : Hid (K = k + 5 * len) := by show _ = _; rw [hK, show i = len by omega]
      have hil : i = len := by omega
      subst hil
      go_wp2
      go_ret
      exact ⟨by rw [← HE.out]; rfl, HFr.out, HRr.out, HGr.out⟩
end Go.Proofs.YtephjmlcbpfnaaaGreatDoor

/-
  What heldFileS of the laws does: it tells that the marks are there.
-/
namespace Go.Proofs.YtephjmlcbpfnaaaGreatDoor
open Go.RowKit

set_option maxRecDepth 100000 in
set_option maxHeartbeats 3200000 in
theorem held_any (w : World) (a : Option Addr) (len cap : Nat) (k : Nat) (h : M.Files w a len cap (M.marks len k)) (hlen : len ≤ 1048576) (hk1 : 1 ≤ k) (hk : k ≤ 1000) :
    Calls Tryz.prog 39 #[.slice a len cap, .int .i64 k] w fun e w' => e = .returned (.int .i64 ((k + 5 * len : Nat) : Int)) ∧ Below w.heap.size w w' := by
  have HF : Hid (M.Files w a len cap (M.marks len k)) := h
  clear h
  go_enter Tryz.func39, Tryz.ntmps39
  go_wp2
  go_loopw [1, 5] (fun x y wr => ∃ (i K : Nat), x = .int .i64 K ∧ y = .int .i64 i ∧ i ≤ len ∧ K = k + 5 * i ∧ Hid (Below w.heap.size w wr)) (fun _ y _ => len - (intOf y).toNat)
  case atStart => exact ⟨0, k, rfl, rfl, Nat.zero_le _, by omega, Below.refl _ _⟩
  case round =>
    obtain ⟨i, K, rfl, rfl, hi, hK, HBr⟩ := hrel
    by_cases hlt : i < len
    · have HKK : Hid (K = k + 5 * i) := hK
      have hK1 : 1 ≤ K := by omega
      have hK2 : K ≤ 10000000 := by omega
      obtain ⟨-, -, -, hfa⟩ := HF.out.below HBr.out
      obtain ⟨b, off, rfl, hat⟩ := hfa (by omega)
      obtain ⟨c0, c1, c2, c3, c4⟩ := hat i (by rw [M.marks_len]; exact hlt)
      have hmk : (M.marks len k)[i]'(by rw [M.marks_len]; exact hlt) = M.mark K := by simp [M.marks, hK]
      rw [hmk] at c0 c1 c2 c3 c4
      simp only [M.mark] at c0 c1 c2 c3 c4
      have hT := fun W => markText_any K W hK1 (by omega)
      have hT4 : ∀ W, Calls Tryz.prog 68 #[.int .i64 ((K : Int) + 1 + 1 + 1 + 1)] W fun e w' => e = .returned (.string (M.mt (K + 4))) ∧ Below W.heap.size W w' := fun W => by
        have := markText_any (K + 4) W (by omega) (by omega)
        rwa [show ((K + 4 : Nat) : Int) = (K : Int) + 1 + 1 + 1 + 1 by omega] at this
      have HT : Hid (∀ W, Calls Tryz.prog 68 #[.int .i64 K] W fun e w' => e = .returned (.string (M.mt K)) ∧ Below W.heap.size W w') := hT
      have HT4 : Hid (∀ W, Calls Tryz.prog 68 #[.int .i64 ((K : Int) + 1 + 1 + 1 + 1)] W fun e w' => e = .returned (.string (M.mt (K + 4))) ∧ Below W.heap.size W w') := hT4
      clear hK hfa hat hmk hT hT4
      have q0 := M.Wd.cell c0
      go_wp2_with fail
      refine M.wp_region_wd (by kernel_rfl) (by kernel_rfl) (fun _ => ?_)
      repeat (first | go_big_quiet_skip | (go_big_quiet_want; go_big_quiet_op; first | go_big_quiet_on | (apply Exists.intro; refine ⟨fun x => ?_, ?_⟩; exact M.Wd.call x (HT.out _); go_big_quiet_on)))
      refine wpQuiet_nil ?_
      intro w2 hw'
      have hb2 : Below wr.heap.size wr w2 := by obtain ⟨x, rfl⟩ := hw'; exact x.bel
      clear hw'
      have HB2 : Hid (Below w.heap.size w w2) := HBr.out.trans (hb2.mono HBr.out.size)
      have t1 : w2.cell? ⟨b, off + i * 5 + 1, none⟩ = _ := (hb2.cell (World.block_lt_of_cell? wr _ c1)).trans c1
      have t2 : w2.cell? ⟨b, off + i * 5 + 2, none⟩ = _ := (hb2.cell (World.block_lt_of_cell? wr _ c2)).trans c2
      have t3 : w2.cell? ⟨b, off + i * 5 + 3, none⟩ = _ := (hb2.cell (World.block_lt_of_cell? wr _ c3)).trans c3
      have t4 : w2.cell? ⟨b, off + i * 5 + 4, none⟩ = _ := (hb2.cell (World.block_lt_of_cell? wr _ c4)).trans c4
      clear hb2 c0 c1 c2 c3 c4 q0 HBr
      go_wp2_with fail
      have q4 := M.Wd.cell t4
      clear t1 t2 t3 t4
      refine M.wp_region_wd (by kernel_rfl) (by kernel_rfl) (fun _ => ?_)
      repeat (first | go_big_quiet_skip | (go_big_quiet_want; go_big_quiet_op; first | go_big_quiet_on | (apply Exists.intro; refine ⟨fun x => ?_, ?_⟩; exact M.Wd.call x (HT4.out _); go_big_quiet_on)))
      refine wpQuiet_nil ?_
      intro w3 hw'
      have hb3 : Below w2.heap.size w2 w3 := by obtain ⟨x, rfl⟩ := hw'; exact x.bel
      clear hw'
      have HB3 : Hid (Below w.heap.size w w3) := HB2.out.trans (hb3.mono HB2.out.size)
      clear hb3 q4 HB2
      go_wp2
      go_roundw
      case rel => exact ⟨i + 1, K + 5, by go_num, by go_num, by omega, by have := HKK.out; omega, HB3⟩
      case measure => simp [intOf]; omega
    · have HE : Hid (K = k + 5 * len) := by show _ = _; rw [hK, show i = len by omega]
      go_wp2
      go_ret
      exact ⟨by rw [← HE.out]; rfl, HBr.out⟩
end Go.Proofs.YtephjmlcbpfnaaaGreatDoor

/-
  Marks in a row of the call's own.
-/
namespace Go.Proofs.YtephjmlcbpfnaaaGreatDoor
open Go.RowKit

theorem M.own_of {w : World} {g cap base : Nat} {T : TypeId} {gs : List M.FileD} (hat : M.FilesAt w g 0 gs) (hr : M.Row w g T (cap * 5)) (hb : base ≤ g) (hn : gs.length ≤ cap) (hc : cap ≤ maxLen) : M.Own w base T (.slice (some ⟨g, 0, none⟩) gs.length cap) gs := by
  obtain ⟨cur, hh, hz⟩ := hr
  refine ⟨M.cellsF_len gs, .inr ⟨g, cap, cur, rfl, hb, hh, hn, hc, hz, ?_⟩⟩
  apply List.ext_getElem?
  intro t
  by_cases h : t < gs.length * 5
  · rw [List.getElem?_take_of_lt h]
    have hl : t < (M.cellsF gs).length := by rw [M.cellsF_len]; exact h
    have hc := hat.cells t _ (List.getElem?_eq_getElem hl)
    rw [Addr.add_lit, Nat.zero_add] at hc
    rw [List.getElem?_eq_getElem hl, ← hc]
    simp [World.cell?, hh]
  · rw [List.getElem?_eq_none (by rw [List.length_take]; exact Nat.le_trans (Nat.min_le_left _ _) (by omega)), List.getElem?_eq_none (by rw [M.cellsF_len]; omega)]

set_option maxRecDepth 100000 in
set_option maxHeartbeats 1600000 in
theorem mark_nil (w : World) (k : Nat) : Calls Tryz.prog 37 #[.slice none 0 0, .int .i64 k] w fun e w' => e = .returned (.int .i64 k) ∧ w = w' := by
  go_enter Tryz.func37, Tryz.ntmps37
  go_wp2
  go_loopw [1, 5] (fun x y wr => x = .int .i64 k ∧ y = .int .i64 0 ∧ w = wr) (fun _ _ _ => 0)
  case atStart => exact ⟨rfl, rfl, rfl⟩
  case round =>
    obtain ⟨rfl, rfl, rfl⟩ := hrel
    go_wp2
    go_ret
    exact ⟨rfl, rfl⟩

theorem mark_own (w : World) (base : Nat) (v : Value) (gs : List M.FileD) (k : Nat) (h : M.Own w base 54 v gs) (hlen : gs.length ≤ 1048576) (hk1 : 1 ≤ k) (hk : k ≤ 1000) :
    Calls Tryz.prog 37 #[v, .int .i64 k] w fun e w' => e = .returned (.int .i64 ((k + 5 * gs.length : Nat) : Int)) ∧ M.Own w' base 54 v (M.marks gs.length k) ∧ w.grownBy w' v.ownBlock := by
  obtain ⟨hl, ⟨rfl, h0⟩ | ⟨g, cap, cur, rfl, hb, hh, hn, hc, hz, ht⟩⟩ := h
  · refine (mark_nil w k).mono ?_
    rintro e w' ⟨rfl, rfl⟩
    rw [h0]
    exact ⟨by simp, ⟨rfl, .inl ⟨rfl, rfl⟩⟩, ⟨rfl, rfl, rfl, Nat.le_refl _, fun _ _ _ => rfl⟩⟩
  · refine (mark_any w g gs.length cap (cap * 5) k ⟨cur, hh, hz⟩ (Nat.mul_le_mul_right 5 hn) hlen hk1 hk).mono ?_
    rintro e w' ⟨rfl, hat, hr, hg⟩
    refine ⟨rfl, ?_, hg⟩
    have := M.own_of (base := base) hat hr hb (by rw [M.marks_len]; exact hn) hc
    rwa [M.marks_len] at this
theorem held_own (w : World) (base : Nat) (v : Value) (n k : Nat) (h : M.Own w base 54 v (M.marks n k)) (hlen : n ≤ 1048576) (hk1 : 1 ≤ k) (hk : k ≤ 1000) :
    Calls Tryz.prog 39 #[v, .int .i64 k] w fun e w' => e = .returned (.int .i64 ((k + 5 * n : Nat) : Int)) ∧ Below w.heap.size w w' := by
  obtain ⟨a, cap, rfl, hf⟩ := h.files
  rw [M.marks_len] at hf ⊢
  exact held_any w a n cap k hf hlen hk1 hk
theorem eq_own (w : World) (b1 b2 : Nat) (v1 v2 : Value) (gs : List M.FileD) (h1 : M.Own w b1 54 v1 gs) (h2 : M.Own w b2 54 v2 gs) :
    Calls Tryz.prog 35 #[v1, v2] w fun e w' => e = .returned (.bool true) ∧ Below w.heap.size w w' := by
  obtain ⟨a1, c1, rfl, f1⟩ := h1.files
  obtain ⟨a2, c2, rfl, f2⟩ := h2.files
  refine (eqFileS_any w a1 a2 _ c1 _ c2 gs gs f1 f2).mono ?_
  rintro e w' ⟨u, rfl, hu, hb⟩
  exact ⟨by rw [hu.2 rfl], hb⟩
end Go.Proofs.YtephjmlcbpfnaaaGreatDoor
