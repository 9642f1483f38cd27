/-
  What formatBits of the library does to the base of eight.
-/
import Derived.Test.YtbmbcfnlpbbapahDoorITrail
import Derived.Test.YtbmbcfnlpbbapahDoorOctMore
import Derived.Laws.BitsLemmas
namespace Go.Proofs.YtbmbcfnlpbbapahDoor
open Go.RowKit

/-- The cells of 65 bytes 0. -/
def M.zer65 : Array Value := ((List.replicate 65 (0 : UInt8)).map M.u8).toArray
theorem Tryd.info65 : (Tryd.prog.info? 90).map (fun i => (i.zero, i.size)) = some (some (.agg M.zer65), 65) := by kernel_rfl

theorem M.and7 (N : Nat) (h : N ≤ 9223372036854775807) : bits BinOp.and IntKind.u64 (N : Int) 7 = ((N % 8 : Nat) : Int) := by
  have h := bits_mask .u64 63 (by decide) (fun n h0 h1 => by rw [IntKind.wrap_u64]; omega) 3 (by decide) (N : Int) (by omega) (by omega)
  have e : ((2 : Int) ^ 3 - 1) = 7 := by decide
  have e2 : ((2 : Int) ^ 3) = 8 := by decide
  rw [e, e2] at h
  rw [h]
  omega

theorem M.digs : ∀ r : Nat, ∀ h : r < 8, (⟨#[48, 49, 50, 51, 52, 53, 54, 55, 56, 57, 97, 98, 99, 100, 101, 102, 103, 104, 105, 106, 107, 108, 109, 110, 111, 112, 113, 114, 115, 116, 117, 118, 119, 120, 121, 122]⟩ : ByteArray)[r]'(Nat.lt_trans h (by decide)) = UInt8.ofNat (48 + r)
  | 0, _ => rfl
  | 1, _ => rfl
  | 2, _ => rfl
  | 3, _ => rfl
  | 4, _ => rfl
  | 5, _ => rfl
  | 6, _ => rfl
  | 7, _ => rfl
  | n + 8, h => absurd h (by omega)
theorem M.oct_j {n j : Nat} (h : 8 ≤ n / 8 ^ j) (hn : n ≤ 9223372036854775807) : j + 1 ≤ 21 := by
  apply Decidable.byContradiction
  intro hj
  have h1 : 8 ^ 21 ≤ 8 ^ j := M.pow8_le (by omega)
  have h2 : n / 8 ^ j = 0 := Nat.div_eq_of_lt (Nat.lt_of_lt_of_le (show n < 8 ^ 21 by omega) h1)
  omega

set_option maxRecDepth 100000 in
set_option maxHeartbeats 1600000 in
theorem fbits_any (n : Nat) (w : World) (hn : n ≤ 9223372036854775807) (ht : M.tz w) :
    Calls Tryd.prog 52 #[.slice none 0 0, .int .u64 n, .int .i64 8, .bool false, .bool false] w fun e w' => ∃ L, M.OctL n L ∧ e = .returned (.tuple #[.slice none 0 0, .string ⟨(M.octT L n).toArray⟩]) ∧ Below w.heap.size w w' := by
  have hz := (zero_of_info Tryd.info65).1
  have HP : Hid (∀ W, Calls Tryd.prog 68 #[.int .i64 8] W fun e w' => e = .returned (.bool true) ∧ W = w') := pow2_8
  have HT : Hid (Calls Tryd.prog 69 #[.int .u64 8] (w.alloc (.cells M.zer65 90)) fun e w' => e = .returned (.int .i64 3) ∧ (w.alloc (.cells M.zer65 90)) = w') := tz_8 _ (ht.alloc _)
  have HA : Hid (M.Arr (w.alloc (.cells M.zer65 90)) w.heap.size 90 (List.replicate 65 0)) := M.arr_made w _ _
  clear ht
  go_enter Tryd.func52, Tryd.ntmps52
  go_wp2_with (first | (go_at_call 68; refine (HP.out _).mono ?_; rintro e w' ⟨rfl, rfl⟩) | (go_at_call 69; refine HT.out.mono ?_; rintro e w' ⟨rfl, rfl⟩))
  go_loopw [1, 13] (fun x y wr => ∃ (j N k : Nat), x = .int .u64 N ∧ y = .int .i64 k ∧ k + j = 65 ∧ j ≤ 21 ∧ N ≤ n ∧ Hid (N = n / 8 ^ j) ∧ Hid (j = 0 ∨ 8 ≤ n / 8 ^ (j - 1)) ∧ Hid (M.Arr wr w.heap.size 90 (List.replicate k 0 ++ M.octT j n)) ∧ Hid (Below w.heap.size w wr)) (fun x _ _ => (intOf x).toNat)
  case atStart => exact ⟨0, n, 65, rfl, rfl, rfl, by decide, Nat.le_refl _, by show _ = _; simp, .inl rfl, by show M.Arr _ _ _ _; rw [M.octT, List.append_nil]; exact HA.out, (Below.refl _ _).alloc (Nat.le_refl _) _⟩
  case round =>
    obtain ⟨j, N, k, rfl, rfl, hkj, hj, hN, HN, HL, HAr, HBr⟩ := hrel
    obtain ⟨r, hr8, HrN⟩ : ∃ r : Nat, r < 8 ∧ Hid (r = N % 8) := ⟨N % 8, Nat.mod_lt _ (by decide), rfl⟩
    have hand : bits BinOp.and IntKind.u64 (N : Int) 7 = (r : Int) := by rw [HrN.out]; exact M.and7 N (by omega)
    obtain ⟨m, rfl⟩ : ∃ m, k = m + 1 := ⟨k - 1, by omega⟩
    have g0 := HAr.out.row.cell m (by simp; omega)
    have f0 := HAr.out.row.free m (by simp; omega)
    generalize Value.int .u8 _ = v0 at g0
    have HA2 : Hid (∀ c, c = UInt8.ofNat (48 + r) → M.Arr (wr.setCell ⟨w.heap.size, m, none⟩ (M.u8 c)) w.heap.size 90 (List.replicate m 0 ++ M.octT (j + 1) n)) := fun c hc => by
      have := HAr.out.set m c
      rwa [M.set_oct m j n c (by rw [hc, HrN.out, HN.out])] at this
    have HB2 : Hid (∀ v, Below w.heap.size w (wr.setCell ⟨w.heap.size, m, none⟩ v)) := fun v => HBr.out.setCell (Nat.le_refl _) v
    by_cases hlt : 8 ≤ N
    · have HN2 : Hid (N / 8 = n / 8 ^ (j + 1)) := by show _ = _; rw [HN.out, M.div_step]
      have hj2 : Hid (j + 1 ≤ 21) := M.oct_j (by rw [← HN.out]; exact hlt) hn
      have HL2 : Hid (j + 1 = 0 ∨ 8 ≤ n / 8 ^ (j + 1 - 1)) := .inr (by rw [Nat.add_sub_cancel, ← HN.out]; exact hlt)
      go_wp2
      go_roundw
      case rel => exact ⟨j + 1, N / 8, m, by go_num, by go_num, by omega, hj2.out, by omega, HN2, HL2, HA2.out _ (M.digs r hr8), HB2.out _⟩
      case measure => simp [intOf]; omega
    · have hrn : r = N := by rw [HrN.out]; omega
      subst hrn
      have HO : Hid (M.OctL n (j + 1)) := M.OctL.last (by rw [← HN.out]; omega) HL.out
      have hcv : ∀ c, c = UInt8.ofNat (48 + r) → (convert 40 9 (.slice (some ⟨w.heap.size, m, none⟩) (65 - m) (65 - m))).run Tryd.prog (wr.setCell ⟨w.heap.size, m, none⟩ (.int .u8 (c.toNat : Int))) = .ok (.string ⟨(M.octT (j + 1) n).toArray⟩) (wr.setCell ⟨w.heap.size, m, none⟩ (.int .u8 (c.toNat : Int))) := fun c hc => by
        have := run_convert_bytes_back (wr.setCell ⟨w.heap.size, m, none⟩ (.int .u8 (c.toNat : Int))) 40 9 5 ⟨w.heap.size, m, none⟩ (65 - m) (M.octT (j + 1) n) Tryd.underlying40 Tryd.underlying5 Tryd.underlying9 (fun i hi => by
          rw [Addr.add_lit]
          have h := (HA2.out c hc).row.cell (m + i) (by rw [List.length_append, List.length_replicate]; omega)
          rw [List.getElem_append_right (by rw [List.length_replicate]; omega)] at h
          simp only [List.length_replicate, Nat.add_sub_cancel_left] at h
          exact h)
        rw [M.octT_len, show j + 1 = 65 - m by omega] at this
        rw [show j + 1 = 65 - m by omega]
        exact this
      have hcv' := hcv _ (M.digs r hr8)
      have hsl : ∀ W, (Instr.sliceAt 90 (.pointer (some ⟨w.heap.size, 0, none⟩)) (some (.int .i64 (m : Int))) none none).run Tryd.prog W = .ok (.slice (some ⟨w.heap.size, m, none⟩) (65 - m) (65 - m)) W := fun W => by
        have hal : Tryd.prog.arrayLen 90 = 65 := by simp [Program.arrayLen, Tryd.underlying90]
        rw [run_sliceAt_array_l W 90 ⟨w.heap.size, 0, none⟩ (by simp [Program.arrayLen, Program.elem, Tryd.underlying90]) .i64 (m : Int) (by omega) (by rw [hal]; omega)]
        go_simp
        omega
      clear hcv
      go_wp2
      go_ret2
      exact ⟨j + 1, HO.out, rfl, HB2.out _⟩
end Go.Proofs.YtbmbcfnlpbbapahDoor
