/-
  An array of 512 bytes 0.
-/
import Derived.Test.YtephjmlcbpfnaaaGreatDoorPart7
import Derived.Test.YtephjmlcbpfnaaaGreatDoorPart6
import Derived.Deep.QuietTactic
import Derived.BigQuiet
import Derived.Laws.BitsLemmas
namespace Go.Proofs.YtephjmlcbpfnaaaGreatDoor
open Go.RowKit
/-- The cells of 512 bytes 0. -/
def M.zer : Array Value := ((List.replicate 512 (0 : UInt8)).map M.u8).toArray
theorem Tryz.infoH : (Tryz.prog.info? 113).map (fun i => (i.zero, i.size)) = some (some (.agg M.zer), 512) := by kernel_rfl
theorem Tryz.infoU : (Tryz.prog.info? 5).map (fun i => (i.zero, i.size)) = some (some (.int .u8 0), 1) := by kernel_rfl
theorem M.sizeU : ∀ w, (Go.sizeOf 5).run Tryz.prog w = .ok 1 w := by
  intro w
  have h := Tryz.infoU
  cases hq : Tryz.prog.info? 5 with
  | none => simp [hq] at h
  | some i => simp [hq] at h; simp [Go.sizeOf, typeInfo, hq, h.2]
end Go.Proofs.YtephjmlcbpfnaaaGreatDoor

/-
  What the program's sum of a header does.
-/
namespace Go.Proofs.YtephjmlcbpfnaaaGreatDoor
open Go.RowKit

set_option maxRecDepth 100000 in
set_option maxHeartbeats 1600000 in
theorem iSum_any (b : Nat) (L : List UInt8) (w : World) (hL : L.length = 512) (hR : M.BRow w b L) :
    Calls Tryz.prog 153 #[.pointer (some ⟨b, 0, none⟩)] w fun e w' => e = .returned (.int .i64 (M.sumH ⟨L.toArray⟩)) ∧ ∃ n, w' = w.drewN n := by
  have HR : Hid (∀ j, ∀ h : j < L.length, w.cell? ⟨b, j, none⟩ = some (.int .u8 ((L[j]).toNat : Int))) := fun j h => hR.cell j h
  clear hR
  go_enter Tryz.func153, Tryz.ntmps153
  go_wp2
  go_loopw [3, 7] (fun x i wr => ∃ k n d : Nat, k ≤ 512 ∧ i = .int .i64 k ∧ x = .int .i64 n ∧ n ≤ 255 * k ∧ Hid (n = M.sumK ⟨L.toArray⟩ k) ∧ wr = w.drewN d) (fun _ i _ => 512 - (intOf i).toNat)
  case atStart => exact ⟨0, 0, 0, Nat.zero_le _, rfl, rfl, Nat.zero_le _, rfl, by rw [World.drewN_zero]⟩
  case round =>
    obtain ⟨k, n, d, hk, rfl, rfl, hn, HV, rfl⟩ := hrel
    by_cases hlt : k < 512
    · have hc := HR.out k (by omega)
      have hle := M.sumK_le ⟨L.toArray⟩ (k + 1)
      have hS : Hid (M.sumK ⟨L.toArray⟩ (k + 1) = M.sumK ⟨L.toArray⟩ k + M.sumC k (L[k]'(by omega))) := M.sumK_L (by omega)
      have hcb : ((L[k]'(by omega)).toNat) ≤ 255 := by have := (L[k]'(by omega)).toNat_lt; omega
      obtain ⟨c, hce⟩ : ∃ c : Nat, c = (L[k]'(by omega)).toNat := ⟨_, rfl⟩
      have HC : Hid (c = (L[k]'(by omega)).toNat) := hce
      rw [← hce] at hc hcb
      clear hce
      rcases (show (148 ≤ k ∧ k < 156) ∨ k < 148 ∨ 156 ≤ k from by omega) with ⟨ha, hb⟩ | ha | ha
      · have HV2 : Hid (n + 32 = M.sumK ⟨L.toArray⟩ (k + 1)) := by show _ = _; rw [hS.out, ← HV.out]; unfold M.sumC; rw [if_pos ⟨ha, hb⟩]
        have hn2 : n + 32 ≤ 255 * (k + 1) := by rw [HV2.out]; exact hle
        have e2 : decide ((k : Int) < 156) = true := decide_eq_true (by omega)
        clear hle
        go_wp2
        go_quiet (fail)
        go_wp2
        go_roundw
        case rel => exact ⟨k + 1, n + 32, _, by omega, by go_num, by go_num, hn2, HV2, rfl⟩
        case measure => simp [intOf]; omega
      · have HV2 : Hid (n + c = M.sumK ⟨L.toArray⟩ (k + 1)) := by show _ = _; rw [hS.out, ← HV.out, HC.out]; unfold M.sumC; rw [if_neg (by omega)]
        have hn2 : n + c ≤ 255 * (k + 1) := by rw [HV2.out]; exact hle
        clear hle
        go_wp2
        go_quiet (fail)
        go_wp2
        go_roundw
        case rel => exact ⟨k + 1, n + c, _, by omega, by go_num, by go_num, hn2, HV2, rfl⟩
        case measure => simp [intOf]; omega
      · have HV2 : Hid (n + c = M.sumK ⟨L.toArray⟩ (k + 1)) := by show _ = _; rw [hS.out, ← HV.out, HC.out]; unfold M.sumC; rw [if_neg (by omega)]
        have hn2 : n + c ≤ 255 * (k + 1) := by rw [HV2.out]; exact hle
        have e2 : decide ((k : Int) < 156) = false := decide_eq_false (by omega)
        clear hle
        go_wp2
        go_quiet (fail)
        go_wp2
        go_roundw
        case rel => exact ⟨k + 1, n + c, _, by omega, by go_num, by go_num, hn2, HV2, rfl⟩
        case measure => simp [intOf]; omega
    · have hE : Hid (M.sumH ⟨L.toArray⟩ = n) := by
        show M.sumK _ _ = _
        rw [HV.out, show k = 512 by omega, ← hL, Lib.size_eq]
      go_wp2
      go_ret
      exact ⟨by rw [hE.out]; rfl, d, rfl⟩
end Go.Proofs.YtephjmlcbpfnaaaGreatDoor

/-
  What TrailingZeros of the library does at 8, and that 8 is a power of two.
-/
namespace Go.Proofs.YtephjmlcbpfnaaaGreatDoor
open Go.RowKit

/-- The one cell of the library's table that a base of eight asks for. -/
def M.tz (w : World) : Prop := w.cell? ⟨6, 7, none⟩ = some (.int .u8 3)
theorem M.tz.lt {w : World} (h : M.tz w) : 6 < w.heap.size := by
  unfold M.tz at h
  apply Decidable.byContradiction
  intro hn
  rw [World.cell?, Array.getElem?_eq_none (Nat.le_of_not_lt hn)] at h
  simp at h
theorem M.tz.below {w w' : World} (h : M.tz w) (hb : Below w.heap.size w w') : M.tz w' := by
  have hl := h.lt
  unfold M.tz at h ⊢
  rw [hb.cell (p := ⟨6, 7, none⟩) hl]; exact h
theorem M.tz.alloc {w : World} (h : M.tz w) (o : Obj) : M.tz (w.alloc o) := h.below ((Below.refl _ _).alloc (Nat.le_refl _) _)

set_option maxRecDepth 100000 in
set_option maxHeartbeats 400000 in
theorem pow2_8 (w : World) : Calls Tryz.prog 216 #[.int .i64 8] w fun e w' => e = .returned (.bool true) ∧ w = w' := by
  go_enter Tryz.func216, Tryz.ntmps216
  go_wp2
  go_ret
  exact ⟨rfl, rfl⟩
set_option maxRecDepth 100000 in
set_option maxHeartbeats 400000 in
theorem tz64_8 (w : World) (h : M.tz w) : Calls Tryz.prog 221 #[.int .u64 8] w fun e w' => e = .returned (.int .i64 3) ∧ w = w' := by
  unfold M.tz at h
  have e1 : bits BinOp.and IntKind.u64 8 (IntKind.u64.wrap (-8)) = 8 := by decide
  have e2 : IntKind.u64.wrap (8 * 285870213051353865) = 2286961704410830920 := by decide
  go_enter Tryz.func221, Tryz.ntmps221
  go_wp2
  go_ret
  exact ⟨rfl, rfl⟩
set_option maxRecDepth 100000 in
set_option maxHeartbeats 400000 in
theorem tz_8 (w : World) (h : M.tz w) : Calls Tryz.prog 217 #[.int .u64 8] w fun e w' => e = .returned (.int .i64 3) ∧ w = w' := by
  have H : Hid (Calls Tryz.prog 221 #[.int .u64 8] w fun e w' => e = .returned (.int .i64 3) ∧ w = w') := tz64_8 w h
  clear h
  go_enter Tryz.func217, Tryz.ntmps217
  go_wp2_with (go_at_call 221; refine H.out.mono ?_; rintro e w' ⟨rfl, rfl⟩)
  go_ret
  exact ⟨rfl, rfl⟩
end Go.Proofs.YtephjmlcbpfnaaaGreatDoor

/-
  What formatBits of the library does to the base of eight.
-/
namespace Go.Proofs.YtephjmlcbpfnaaaGreatDoor
open Go.RowKit

/-- The cells of 65 bytes 0. -/
def M.zer65 : Array Value := ((List.replicate 65 (0 : UInt8)).map M.u8).toArray
theorem Tryz.info65 : (Tryz.prog.info? 237).map (fun i => (i.zero, i.size)) = some (some (.agg M.zer65), 65) := by kernel_rfl

theorem M.and7 (N : Nat) (h : N ≤ 9223372036854775807) : bits BinOp.and IntKind.u64 (N : Int) 7 = ((N % 8 : Nat) : Int) := by
  have h := bits_mask .u64 63 (by decide) (fun n h0 h1 => by rw [IntKind.wrap_u64]; omega) 3 (by decide) (N : Int) (by omega) (by omega)
  have e : ((2 : Int) ^ 3 - 1) = 7 := by decide
  have e2 : ((2 : Int) ^ 3) = 8 := by decide
  rw [e, e2] at h
  rw [h]
  omega

theorem M.digs : ∀ r : Nat, ∀ h : r < 8, (⟨#[48, 49, 50, 51, 52, 53, 54, 55, 56, 57, 97, 98, 99, 100, 101, 102, 103, 104, 105, 106, 107, 108, 109, 110, 111, 112, 113, 114, 115, 116, 117, 118, 119, 120, 121, 122]⟩ : ByteArray)[r]'(Nat.lt_trans h (by decide)) = UInt8.ofNat (48 + r)
  | 0, _ => rfl
  | 1, _ => rfl
  | 2, _ => rfl
  | 3, _ => rfl
  | 4, _ => rfl
  | 5, _ => rfl
  | 6, _ => rfl
  | 7, _ => rfl
  | n + 8, h => absurd h (by omega)
theorem M.oct_j {n j : Nat} (h : 8 ≤ n / 8 ^ j) (hn : n ≤ 9223372036854775807) : j + 1 ≤ 21 := by
  apply Decidable.byContradiction
  intro hj
  have h1 : 8 ^ 21 ≤ 8 ^ j := M.pow8_le (by omega)
  have h2 : n / 8 ^ j = 0 := Nat.div_eq_of_lt (Nat.lt_of_lt_of_le (show n < 8 ^ 21 by omega) h1)
  omega

set_option maxRecDepth 100000 in
set_option maxHeartbeats 1600000 in
theorem fbits_any (n : Nat) (w : World) (hn : n ≤ 9223372036854775807) (ht : M.tz w) :
    Calls Tryz.prog 205 #[.slice none 0 0, .int .u64 n, .int .i64 8, .bool false, .bool false] w fun e w' => ∃ L, M.OctL n L ∧ e = .returned (.tuple #[.slice none 0 0, .string ⟨(M.octT L n).toArray⟩]) ∧ Below w.heap.size w w' := by
  have hz := (zero_of_info Tryz.info65).1
  have HP : Hid (∀ W, Calls Tryz.prog 216 #[.int .i64 8] W fun e w' => e = .returned (.bool true) ∧ W = w') := pow2_8
  have HT : Hid (Calls Tryz.prog 217 #[.int .u64 8] (w.alloc (.cells M.zer65 237)) fun e w' => e = .returned (.int .i64 3) ∧ (w.alloc (.cells M.zer65 237)) = w') := tz_8 _ (ht.alloc _)
  have HA : Hid (M.Arr (w.alloc (.cells M.zer65 237)) w.heap.size 237 (List.replicate 65 0)) := M.arr_made w _ _
  clear ht
  go_enter Tryz.func205, Tryz.ntmps205
  go_wp2_with (first | (go_at_call 216; refine (HP.out _).mono ?_; rintro e w' ⟨rfl, rfl⟩) | (go_at_call 217; refine HT.out.mono ?_; rintro e w' ⟨rfl, rfl⟩))
  go_loopw [1, 13] (fun x y wr => ∃ (j N k : Nat), x = .int .u64 N ∧ y = .int .i64 k ∧ k + j = 65 ∧ j ≤ 21 ∧ N ≤ n ∧ Hid (N = n / 8 ^ j) ∧ Hid (j = 0 ∨ 8 ≤ n / 8 ^ (j - 1)) ∧ Hid (M.Arr wr w.heap.size 237 (List.replicate k 0 ++ M.octT j n)) ∧ Hid (Below w.heap.size w wr)) (fun x _ _ => (intOf x).toNat)
  case atStart => exact ⟨0, n, 65, rfl, rfl, rfl, by decide, Nat.le_refl _, by show _ = _; simp, .inl rfl, by show M.Arr _ _ _ _; rw [M.octT, List.append_nil]; exact HA.out, (Below.refl _ _).alloc (Nat.le_refl _) _⟩
  case round =>
    obtain ⟨j, N, k, rfl, rfl, hkj, hj, hN, HN, HL, HAr, HBr⟩ := hrel
    obtain ⟨r, hr8, HrN⟩ : ∃ r : Nat, r < 8 ∧ Hid (r = N % 8) := ⟨N % 8, Nat.mod_lt _ (by decide), rfl⟩
    have hand : bits BinOp.and IntKind.u64 (N : Int) 7 = (r : Int) := by rw [HrN.out]; exact M.and7 N (by omega)
    obtain ⟨m, rfl⟩ : ∃ m, k = m + 1 := ⟨k - 1, by omega⟩
    have g0 := HAr.out.row.cell m (by simp; omega)
    have f0 := HAr.out.row.free m (by simp; omega)
    generalize Value.int .u8 _ = v0 at g0
    have HA2 : Hid (∀ c, c = UInt8.ofNat (48 + r) → M.Arr (wr.setCell ⟨w.heap.size, m, none⟩ (M.u8 c)) w.heap.size 237 (List.replicate m 0 ++ M.octT (j + 1) n)) := fun c hc => by
      have := HAr.out.set m c
      rwa [M.set_oct m j n c (by rw [hc, HrN.out, HN.out])] at this
    have HB2 : Hid (∀ v, Below w.heap.size w (wr.setCell ⟨w.heap.size, m, none⟩ v)) := fun v => HBr.out.setCell (Nat.le_refl _) v
    by_cases hlt : 8 ≤ N
    · have HN2 : Hid (N / 8 = n / 8 ^ (j + 1)) := by show _ = _; rw [HN.out, M.div_step]
      have hj2 : Hid (j + 1 ≤ 21) := M.oct_j (by rw [← HN.out]; exact hlt) hn
      have HL2 : Hid (j + 1 = 0 ∨ 8 ≤ n / 8 ^ (j + 1 - 1)) := .inr (by rw [Nat.add_sub_cancel, ← HN.out]; exact hlt)
      go_wp2
      go_roundw
      case rel => exact ⟨j + 1, N / 8, m, by go_num, by go_num, by omega, hj2.out, by omega, HN2, HL2, HA2.out _ (M.digs r hr8), HB2.out _⟩
      case measure => simp [intOf]; omega
    · have hrn : r = N := by rw [HrN.out]; omega
      subst hrn
      have HO : Hid (M.OctL n (j + 1)) := M.OctL.last (by rw [← HN.out]; omega) HL.out
      have hcv : ∀ c, c = UInt8.ofNat (48 + r) → (convert 61 9 (.slice (some ⟨w.heap.size, m, none⟩) (65 - m) (65 - m))).run Tryz.prog (wr.setCell ⟨w.heap.size, m, none⟩ (.int .u8 (c.toNat : Int))) = .ok (.string ⟨(M.octT (j + 1) n).toArray⟩) (wr.setCell ⟨w.heap.size, m, none⟩ (.int .u8 (c.toNat : Int))) := fun c hc => by
        have := run_convert_bytes_back (wr.setCell ⟨w.heap.size, m, none⟩ (.int .u8 (c.toNat : Int))) 61 9 5 ⟨w.heap.size, m, none⟩ (65 - m) (M.octT (j + 1) n) Tryz.underlying61 Tryz.underlying5 Tryz.underlying9 (fun i hi => by
          rw [Addr.add_lit]
          have h := (HA2.out c hc).row.cell (m + i) (by rw [List.length_append, List.length_replicate]; omega)
          rw [List.getElem_append_right (by rw [List.length_replicate]; omega)] at h
          simp only [List.length_replicate, Nat.add_sub_cancel_left] at h
          exact h)
        rw [M.octT_len, show j + 1 = 65 - m by omega] at this
        rw [show j + 1 = 65 - m by omega]
        exact this
      have hcv' := hcv _ (M.digs r hr8)
      have hsl : ∀ W, (Instr.sliceAt 237 (.pointer (some ⟨w.heap.size, 0, none⟩)) (some (.int .i64 (m : Int))) none none).run Tryz.prog W = .ok (.slice (some ⟨w.heap.size, m, none⟩) (65 - m) (65 - m)) W := fun W => by
        have hal : Tryz.prog.arrayLen 237 = 65 := by simp [Program.arrayLen, Tryz.underlying237]
        rw [run_sliceAt_array_l W 237 ⟨w.heap.size, 0, none⟩ (by simp [Program.arrayLen, Program.elem, Tryz.underlying237]) .i64 (m : Int) (by omega) (by rw [hal]; omega)]
        go_simp
        omega
      clear hcv
      go_wp2
      go_ret2
      exact ⟨j + 1, HO.out, rfl, HB2.out _⟩
end Go.Proofs.YtephjmlcbpfnaaaGreatDoor
