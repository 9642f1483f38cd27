/-
  What markStringS and heldStringS of the laws do.
-/
import Derived.Test.YtappficbjjkmiaaPart2
import Derived.Test.YtappficbjjkmiaaPart4
import Derived.Deep.RegionWith
namespace Go.Proofs.Ytappficbjjkmiaa
open Go.RowKit

theorem M.hids {p : Prop} (h : p) : Hid p := h
/-- So many texts, those of the numbers from k on. -/
def M.mts (n k : Nat) : List ByteArray := (List.range n).map fun i => M.mt (k + i)
theorem M.mts_len (n k : Nat) : (M.mts n k).length = n := by simp [M.mts]
theorem M.mts_snoc (n k : Nat) : M.mts (n + 1) k = M.mts n k ++ [M.mt (k + n)] := by simp [M.mts, List.range_succ]
theorem M.mts_at {n k i : Nat} (h : i < (M.mts n k).length) : (M.mts n k)[i] = M.mt (k + i) := by simp [M.mts]
theorem M.grownT {w W : World} {g o : Nat} {v : Value} (h : w.grownBy W (some g)) : w.grownBy (W.setCell ⟨g, o, none⟩ v) (some g) :=
  ⟨h.os, h.tape, h.output, by have := h.size; simp [World.setCell]; omega, fun k hk hne => by
    rw [Below.heap_setCell W ⟨g, o, none⟩ v k (fun e => hne (by rw [e]))]; exact h.block k hk hne⟩

set_option maxRecDepth 100000 in
set_option maxHeartbeats 1600000 in
theorem markStringS_at (w : World) (g n cap N : Nat) (hr : M.Row w g 9 N) (hN : n ≤ N) (hl : n ≤ 2000000) :
    Calls Try.prog 69 #[.slice (some ⟨g, 0, none⟩) n cap, .int .i64 1] w fun e w' => e = .returned (.int .i64 ((1 + n : Nat) : Int)) ∧ M.StrsAt w' g 0 (M.mts n 1) ∧ M.Row w' g 9 N ∧ w.grownBy w' (some g) := by
  have HR := M.hids hr
  clear hr
  go_enter Try.func69, Try.ntmps69
  go_wp2
  go_loopw [1, 5] (fun x y wr => ∃ (i : Nat), x = .int .i64 ((1 + i : Nat) : Int) ∧ y = .int .i64 i ∧ i ≤ n ∧ Hid (M.StrsAt wr g 0 (M.mts i 1)) ∧ Hid (M.Row wr g 9 N) ∧ Hid (w.grownBy wr (some g))) (fun _ y _ => n - (intOf y).toNat)
  case atStart => exact ⟨0, rfl, rfl, Nat.zero_le _, fun i hi => by simp [M.mts] at hi, HR, World.grownBy.refl _ _⟩
  case round =>
    obtain ⟨i, rfl, rfl, hi, HSr, HRr, HGr⟩ := hrel
    by_cases hlt : i < n
    · have HT := M.hids (fun W => markText_any (1 + i) W (by omega) (by omega))
      obtain ⟨K, hK⟩ : ∃ K, K = 1 + i := ⟨_, rfl⟩
      rw [← hK] at HT
      rw [← hK]
      have HK := M.hids hK
      have hK2 : K ≤ 3000000 := by omega
      clear hK
      go_wp2_with fail
      refine (HT.out _).mono ?_
      rintro e w1 ⟨rfl, hb1⟩
      have hblk := hb1.block g HRr.out.lt
      have hR1 := HRr.out.of_block hblk
      have hS1 := HSr.out.of_block hblk
      have HG1 : Hid (w.grownBy w1 (some g)) := HGr.out.trans ⟨hb1.os, hb1.tape, hb1.output, hb1.size, fun k hk _ => hb1.block k hk⟩
      obtain ⟨v0, g0⟩ := hR1.cell (i := i) (by omega)
      have e0 := hR1.free i
      have HR2 := M.hids (hR1.setCell i (.string (M.mt K)))
      have HS2 : Hid (M.StrsAt (w1.setCell ⟨g, i, none⟩ (.string (M.mt K))) g 0 (M.mts (i + 1) 1)) := by
        have := hS1.push (k := i) (s := M.mt K) hR1 (M.mts_len i 1) (by omega)
        show M.StrsAt _ _ _ _
        rw [M.mts_snoc, ← HK.out]; exact this
      have HG2 : Hid (w.grownBy (w1.setCell ⟨g, i, none⟩ (.string (M.mt K))) (some g)) := M.grownT HG1.out
      clear hb1 hblk hR1 hS1 HT
      go_wp2
      go_roundw
      case rel => exact ⟨i + 1, by rw [show ((K : Int) + 1) = ((1 + (i + 1) : Nat) : Int) by have := HK.out; omega], by go_num, by omega, HS2, HR2, HG2⟩
      case measure => simp [intOf]; omega
    · obtain rfl : i = n := by omega
      go_wp2
      go_ret
      exact ⟨rfl, HSr.out, HRr.out, HGr.out⟩
theorem markStringS_own (w : World) (base : Nat) (v : Value) (ss : List ByteArray) (h : M.OwnS w base v ss) (hl : ss.length ≤ 2000000) :
    Calls Try.prog 69 #[v, .int .i64 1] w fun e w' => e = .returned (.int .i64 ((1 + ss.length : Nat) : Int)) ∧ M.OwnS w' base v (M.mts ss.length 1) ∧ w.grownBy w' v.ownBlock := by
  obtain ⟨hl0, ⟨rfl, h0⟩ | ⟨g, cap, cur, rfl, hb, hh, hn, hc, hz, ht⟩⟩ := h
  · rw [h0]
    go_enter Try.func69, Try.ntmps69
    go_wp2
    go_loopw [1, 5] (fun x y wr => x = .int .i64 1 ∧ y = .int .i64 0 ∧ w = wr) (fun _ _ _ => 0)
    case atStart => exact ⟨rfl, rfl, rfl⟩
    case round =>
      obtain ⟨rfl, rfl, rfl⟩ := hrel
      go_wp2
      go_ret
      exact ⟨rfl, M.OwnS.nil _ _, World.grownBy.refl _ _⟩
  · refine (markStringS_at w g ss.length cap cap ⟨cur, hh, by rw [hz, Nat.mul_one]⟩ hn hl).mono ?_
    rintro e w' ⟨rfl, hat, ⟨cur', hh', hz'⟩, hg⟩
    refine ⟨rfl, ⟨by simp, .inr ⟨g, cap, cur', by rw [M.mts_len], hb, hh', by rw [M.mts_len]; exact hn, hc, by rw [hz', Nat.mul_one], ?_⟩⟩, hg⟩
    apply List.ext_getElem?
    intro t
    rw [M.mts_len, Nat.mul_one]
    by_cases h : t < ss.length
    · rw [List.getElem?_take_of_lt h]
      have hl2 : t < (M.mts ss.length 1).length := by rw [M.mts_len]; exact h
      have hcell := hat t hl2
      rw [Nat.zero_add] at hcell
      rw [List.getElem?_map, List.getElem?_eq_getElem hl2, Option.map_some, ← hcell]
      simp [World.cell?, hh']
    · rw [List.getElem?_eq_none (by rw [List.length_take]; exact Nat.le_trans (Nat.min_le_left _ _) (by omega)), List.getElem?_eq_none (by simp [M.mts_len]; omega)]

set_option maxRecDepth 100000 in
set_option maxHeartbeats 1600000 in
theorem heldStringS_at (w : World) (a : Option Addr) (n cap : Nat) (h : M.Strs w a n cap (M.mts n 1)) (hl : n ≤ 2000000) :
    Calls Try.prog 73 #[.slice a n cap, .int .i64 1] w fun e w' => e = .returned (.int .i64 ((1 + n : Nat) : Int)) ∧ Below w.heap.size w w' := by
  have HF := M.hids h
  clear h
  go_enter Try.func73, Try.ntmps73
  go_wp2
  go_loopw [1, 5] (fun x y wr => ∃ (i : Nat), x = .int .i64 ((1 + i : Nat) : Int) ∧ y = .int .i64 i ∧ i ≤ n ∧ Hid (Below w.heap.size w wr)) (fun _ y _ => n - (intOf y).toNat)
  case atStart => exact ⟨0, rfl, rfl, Nat.zero_le _, Below.refl _ _⟩
  case round =>
    obtain ⟨i, rfl, rfl, hi, HBr⟩ := hrel
    by_cases hlt : i < n
    · obtain ⟨-, -, -, hfa⟩ := HF.out.below HBr.out
      obtain ⟨b, off, rfl, hat⟩ := hfa (by omega)
      have c0 := hat i (by rw [M.mts_len]; exact hlt)
      rw [M.mts_at] at c0
      have HT := M.hids (fun W => markText_any (1 + i) W (by omega) (by omega))
      obtain ⟨K, hK⟩ : ∃ K, K = 1 + i := ⟨_, rfl⟩
      rw [← hK] at HT c0
      rw [← hK]
      have HK := M.hids hK
      have hK2 : K ≤ 3000000 := by omega
      clear hK
      generalize M.mt K = T at HT c0
      have ct : ∀ W, Below wr.heap.size wr W → W.cell? ⟨b, off + i, none⟩ = some (.string T) := fun W hW => (hW.cell (p := ⟨b, off + i, none⟩) (World.block_lt_of_cell? wr _ c0)).trans c0
      have CT := M.hids ct
      have hBD : Below wr.heap.size wr wr.drew := (Below.refl _ _).drew
      have BD := M.hids hBD
      have dz : (T.toList != T.toList) = false := by simp
      have dz' : (T.toList == T.toList) = true := by simp
      clear hat hfa ct hBD
      go_wp2_with fail
      go_region_with (go_at_call 85; refine (HT.out _).mono ?_; rintro e w2 ⟨rfl, hb2⟩; have c2 := CT.out w2 (BD.out.trans (hb2.mono BD.out.size)))
      all_goals
        go_wp2
        go_roundw
        case rel => exact ⟨i + 1, by rw [show ((K : Int) + 1) = ((1 + (i + 1) : Nat) : Int) by have := HK.out; omega], by go_num, by omega, HBr.out.trans ((BD.out.trans (hb2.mono BD.out.size)).mono HBr.out.size)⟩
        case measure => simp [intOf]; omega
    · obtain rfl : i = n := by omega
      go_wp2
      go_ret
      exact ⟨rfl, HBr.out⟩
theorem heldStringS_own (w : World) (base : Nat) (v : Value) (n : Nat) (h : M.OwnS w base v (M.mts n 1)) (hl : n ≤ 2000000) :
    Calls Try.prog 73 #[v, .int .i64 1] w fun e w' => e = .returned (.int .i64 ((1 + n : Nat) : Int)) ∧ Below w.heap.size w w' := by
  obtain ⟨a, cap, rfl, hv⟩ := h.strs
  rw [M.mts_len] at hv ⊢
  exact heldStringS_at w a n cap hv hl
end Go.Proofs.Ytappficbjjkmiaa

/-
  What markStringS and heldStringS of the laws do, from whatever number on.
-/
namespace Go.Proofs.Ytappficbjjkmiaa
open Go.RowKit

set_option maxRecDepth 100000 in
set_option maxHeartbeats 1600000 in
theorem markStringS_k (w : World) (g n cap N k0 : Nat) (hr : M.Row w g 9 N) (hN : n ≤ N) (hk1 : 1 ≤ k0) (hl : k0 + n ≤ 50000000) :
    Calls Try.prog 69 #[.slice (some ⟨g, 0, none⟩) n cap, .int .i64 k0] w fun e w' => e = .returned (.int .i64 ((k0 + n : Nat) : Int)) ∧ M.StrsAt w' g 0 (M.mts n k0) ∧ M.Row w' g 9 N ∧ w.grownBy w' (some g) := by
  have HR := M.hids hr
  clear hr
  go_enter Try.func69, Try.ntmps69
  go_wp2
  go_loopw [1, 5] (fun x y wr => ∃ (i : Nat), x = .int .i64 ((k0 + i : Nat) : Int) ∧ y = .int .i64 i ∧ i ≤ n ∧ Hid (M.StrsAt wr g 0 (M.mts i k0)) ∧ Hid (M.Row wr g 9 N) ∧ Hid (w.grownBy wr (some g))) (fun _ y _ => n - (intOf y).toNat)
  case atStart => exact ⟨0, rfl, rfl, Nat.zero_le _, fun i hi => by simp [M.mts] at hi, HR, World.grownBy.refl _ _⟩
  case round =>
    obtain ⟨i, rfl, rfl, hi, HSr, HRr, HGr⟩ := hrel
    by_cases hlt : i < n
    · have HT := M.hids (fun W => markText_any (k0 + i) W (by omega) (by omega))
      obtain ⟨K, hK⟩ : ∃ K, K = k0 + i := ⟨_, rfl⟩
      rw [← hK] at HT
      rw [← hK]
      have HK := M.hids hK
      have hK2 : K ≤ 60000000 := by omega
      clear hK
      go_wp2_with fail
      refine (HT.out _).mono ?_
      rintro e w1 ⟨rfl, hb1⟩
      have hblk := hb1.block g HRr.out.lt
      have hR1 := HRr.out.of_block hblk
      have hS1 := HSr.out.of_block hblk
      have HG1 : Hid (w.grownBy w1 (some g)) := HGr.out.trans ⟨hb1.os, hb1.tape, hb1.output, hb1.size, fun k hk _ => hb1.block k hk⟩
      obtain ⟨v0, g0⟩ := hR1.cell (i := i) (by omega)
      have e0 := hR1.free i
      have HR2 := M.hids (hR1.setCell i (.string (M.mt K)))
      have HS2 : Hid (M.StrsAt (w1.setCell ⟨g, i, none⟩ (.string (M.mt K))) g 0 (M.mts (i + 1) k0)) := by
        have := hS1.push (k := i) (s := M.mt K) hR1 (M.mts_len i k0) (by omega)
        show M.StrsAt _ _ _ _
        rw [M.mts_snoc, ← HK.out]; exact this
      have HG2 : Hid (w.grownBy (w1.setCell ⟨g, i, none⟩ (.string (M.mt K))) (some g)) := M.grownT HG1.out
      clear hb1 hblk hR1 hS1 HT
      go_wp2
      go_roundw
      case rel => exact ⟨i + 1, by rw [show ((K : Int) + 1) = ((k0 + (i + 1) : Nat) : Int) by have := HK.out; omega], by go_num, by omega, HS2, HR2, HG2⟩
      case measure => simp [intOf]; omega
    · obtain rfl : i = n := by omega
      go_wp2
      go_ret
      exact ⟨rfl, HSr.out, HRr.out, HGr.out⟩
theorem markStringS_ownK (w : World) (base : Nat) (v : Value) (ss : List ByteArray) (k0 : Nat) (h : M.OwnS w base v ss) (hk1 : 1 ≤ k0) (hl : k0 + ss.length ≤ 50000000) :
    Calls Try.prog 69 #[v, .int .i64 k0] w fun e w' => e = .returned (.int .i64 ((k0 + ss.length : Nat) : Int)) ∧ M.OwnS w' base v (M.mts ss.length k0) ∧ w.grownBy w' v.ownBlock := by
  obtain ⟨hl0, ⟨rfl, h0⟩ | ⟨g, cap, cur, rfl, hb, hh, hn, hc, hz, ht⟩⟩ := h
  · rw [h0]
    go_enter Try.func69, Try.ntmps69
    go_wp2
    go_loopw [1, 5] (fun x y wr => x = .int .i64 (k0 : Int) ∧ y = .int .i64 0 ∧ w = wr) (fun _ _ _ => 0)
    case atStart => exact ⟨rfl, rfl, rfl⟩
    case round =>
      obtain ⟨rfl, rfl, rfl⟩ := hrel
      go_wp2
      go_ret
      exact ⟨rfl, M.OwnS.nil _ _, World.grownBy.refl _ _⟩
  · refine (markStringS_k w g ss.length cap cap k0 ⟨cur, hh, by rw [hz, Nat.mul_one]⟩ hn hk1 hl).mono ?_
    rintro e w' ⟨rfl, hat, ⟨cur', hh', hz'⟩, hg⟩
    refine ⟨rfl, ⟨by simp, .inr ⟨g, cap, cur', by rw [M.mts_len], hb, hh', by rw [M.mts_len]; exact hn, hc, by rw [hz', Nat.mul_one], ?_⟩⟩, hg⟩
    apply List.ext_getElem?
    intro t
    rw [M.mts_len, Nat.mul_one]
    by_cases h : t < ss.length
    · rw [List.getElem?_take_of_lt h]
      have hl2 : t < (M.mts ss.length k0).length := by rw [M.mts_len]; exact h
      have hcell := hat t hl2
      rw [Nat.zero_add] at hcell
      rw [List.getElem?_map, List.getElem?_eq_getElem hl2, Option.map_some, ← hcell]
      simp [World.cell?, hh']
    · rw [List.getElem?_eq_none (by rw [List.length_take]; exact Nat.le_trans (Nat.min_le_left _ _) (by omega)), List.getElem?_eq_none (by simp [M.mts_len]; omega)]

set_option maxRecDepth 100000 in
set_option maxHeartbeats 1600000 in
theorem heldStringS_k (w : World) (a : Option Addr) (n cap k0 : Nat) (h : M.Strs w a n cap (M.mts n k0)) (hk1 : 1 ≤ k0) (hl : k0 + n ≤ 50000000) :
    Calls Try.prog 73 #[.slice a n cap, .int .i64 k0] w fun e w' => e = .returned (.int .i64 ((k0 + n : Nat) : Int)) ∧ Below w.heap.size w w' := by
  have HF := M.hids h
  clear h
  go_enter Try.func73, Try.ntmps73
  go_wp2
  go_loopw [1, 5] (fun x y wr => ∃ (i : Nat), x = .int .i64 ((k0 + i : Nat) : Int) ∧ y = .int .i64 i ∧ i ≤ n ∧ Hid (Below w.heap.size w wr)) (fun _ y _ => n - (intOf y).toNat)
  case atStart => exact ⟨0, rfl, rfl, Nat.zero_le _, Below.refl _ _⟩
  case round =>
    obtain ⟨i, rfl, rfl, hi, HBr⟩ := hrel
    by_cases hlt : i < n
    · obtain ⟨-, -, -, hfa⟩ := HF.out.below HBr.out
      obtain ⟨b, off, rfl, hat⟩ := hfa (by omega)
      have c0 := hat i (by rw [M.mts_len]; exact hlt)
      rw [M.mts_at] at c0
      have HT := M.hids (fun W => markText_any (k0 + i) W (by omega) (by omega))
      obtain ⟨K, hK⟩ : ∃ K, K = k0 + i := ⟨_, rfl⟩
      rw [← hK] at HT c0
      rw [← hK]
      have HK := M.hids hK
      have hK2 : K ≤ 60000000 := by omega
      clear hK
      generalize M.mt K = T at HT c0
      have ct : ∀ W, Below wr.heap.size wr W → W.cell? ⟨b, off + i, none⟩ = some (.string T) := fun W hW => (hW.cell (p := ⟨b, off + i, none⟩) (World.block_lt_of_cell? wr _ c0)).trans c0
      have CT := M.hids ct
      have hBD : Below wr.heap.size wr wr.drew := (Below.refl _ _).drew
      have BD := M.hids hBD
      have dz : (T.toList != T.toList) = false := by simp
      have dz' : (T.toList == T.toList) = true := by simp
      clear hat hfa ct hBD
      go_wp2_with fail
      go_region_with (go_at_call 85; refine (HT.out _).mono ?_; rintro e w2 ⟨rfl, hb2⟩; have c2 := CT.out w2 (BD.out.trans (hb2.mono BD.out.size)))
      all_goals
        go_wp2
        go_roundw
        case rel => exact ⟨i + 1, by rw [show ((K : Int) + 1) = ((k0 + (i + 1) : Nat) : Int) by have := HK.out; omega], by go_num, by omega, HBr.out.trans ((BD.out.trans (hb2.mono BD.out.size)).mono HBr.out.size)⟩
        case measure => simp [intOf]; omega
    · obtain rfl : i = n := by omega
      go_wp2
      go_ret
      exact ⟨rfl, HBr.out⟩
end Go.Proofs.Ytappficbjjkmiaa
