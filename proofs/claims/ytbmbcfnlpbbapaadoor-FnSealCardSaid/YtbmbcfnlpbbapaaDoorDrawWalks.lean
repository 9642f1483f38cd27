/-
  Draws of numbers and texts, told as far as the laws of chapter 2 need them.
-/
import Derived.Test.YtbmbcfnlpbbapaaDoorSrcWalks
import Derived.Test.YtbmbcfnlpbbapaaDoorJoinedWalk
namespace Go.Proofs.YtbmbcfnlpbbapaaDoor
open Go.RowKit

theorem M.Src.alloc {W : World} {g : Nat} {a : Option Addr} {len cap : Nat} (h : M.Src g a len cap W) (o : Obj) : M.Src g a len cap (W.alloc o) :=
  h.kept (World.grownBy_alloc W o none) (fun k hk => by simp at hk)

theorem M.edges (w : World) (T : TypeId) (k : Nat) (hk : k < 14) : ∃ z : Int, -9223372036854775808 ≤ z ∧ z ≤ 9223372036854775807 ∧
    (w.alloc (.cells #[.int .i64 0, .int .i64 1, .int .i64 (-1), .int .i64 2, .int .i64 1000, .int .i64 1001, .int .i64 2147483648, .int .i64 2147483647, .int .i64 (-2147483648), .int .i64 4611686018427387904, .int .i64 9223372036854775807, .int .i64 (-9223372036854775808), .int .i64 1000000, .int .i64 1000001] T)).cell? ⟨w.heap.size, k, none⟩ = some (.int .i64 z) := by
  rw [World.cell?_alloc_mark]
  rcases (show k = 0 ∨ k = 1 ∨ k = 2 ∨ k = 3 ∨ k = 4 ∨ k = 5 ∨ k = 6 ∨ k = 7 ∨ k = 8 ∨ k = 9 ∨ k = 10 ∨ k = 11 ∨ k = 12 ∨ k = 13 by omega) with rfl | rfl | rfl | rfl | rfl | rfl | rfl | rfl | rfl | rfl | rfl | rfl | rfl | rfl
  all_goals exact ⟨_, by omega, by omega, rfl⟩

set_option maxRecDepth 100000 in
set_option maxHeartbeats 800000 in
theorem src_edge (w : World) (g len cap : Nat) (a : Option Addr) (h : M.Src g a len cap w) :
    Calls Tryd.prog 55 #[.pointer (some ⟨g, 0, none⟩)] w fun e w' => ∃ v : Int, e = .returned (.int .i64 v) ∧ -9223372036854775808 ≤ v ∧ v ≤ 9223372036854775807 ∧ M.Src g a len cap w' ∧ w.grownBy w' (some g) := by
  have HS : Hid (M.Src g a len cap w) := h
  clear h
  go_enter Tryd.func55, Tryd.ntmps55
  go_wp2_with fail
  refine (src_n _ g len cap a 14 (HS.out.alloc _) (by omega)).mono ?_
  rintro e w1 ⟨v, rfl, h0, h1, h2, hS, hg⟩
  have h14 := h1 (by omega)
  obtain ⟨k, rfl⟩ := Int.eq_ofNat_of_zero_le h0
  obtain ⟨z, hz0, hz9, cz⟩ := M.edges w 2 k (by omega)
  have cz1 := hg.cell cz (by have := HS.out.lt; simp; omega)
  have HS1 : Hid (M.Src g a len cap w1) := hS
  have HG : Hid _ := hg
  clear hS hg cz h1 h2
  go_wp2
  go_ret
  exact ⟨z, rfl, hz0, hz9, HS1.out, M.grown_trans (World.grownBy_alloc w _ (some g)) HG.out⟩

theorem M.own_ne {w W : World} {g : Nat} {e : TypeId} {n : Nat} {v : Value} {xs : List Value} (h : W.ownsRow w.heap.size e 1 v n xs) (hg : g < w.heap.size) : v.ownBlock = none ∨ v.ownBlock ≠ some g := by
  cases hv : v.ownBlock with
  | none => exact .inl rfl
  | some k => exact .inr (fun e => by have := (h.lt k hv).1; have := Option.some.inj e; omega)
theorem M.grown_app {w W W1 : World} {g : Nat} {e : TypeId} {n : Nat} {v : Value} {xs : List Value} (h : w.grownBy W (some g)) (ho : W.ownsRow w.heap.size e 1 v n xs) (k : W.grownBy W1 v.ownBlock) : w.grownBy W1 (some g) :=
  ⟨k.os.trans h.os, k.tape.trans h.tape, k.output.trans h.output, Nat.le_trans h.size k.size, fun i hi hne => (k.block i (Nat.lt_of_lt_of_le hi h.size) (fun e => by have := (ho.lt i e.symm).1; omega)).trans (h.block i hi hne)⟩

set_option maxRecDepth 100000 in
set_option maxHeartbeats 800000 in
theorem src_bytes (w : World) (g len cap : Nat) (a : Option Addr) (n : Nat) (h : M.Src g a len cap w) (hn : n ≤ 100000) :
    Calls Tryd.prog 48 #[.pointer (some ⟨g, 0, none⟩), .int .i64 n] w fun e w' => ∃ l : List UInt8, e = .returned (.string ⟨l.toArray⟩) ∧ l.length = n ∧ M.Src g a len cap w' ∧ w.grownBy w' (some g) := by
  obtain ⟨i0, hi, hz0, hz1, hz2⟩ := info_parts Tryd.infoB
  have hgw := h.lt
  have HS : Hid (M.Src g a len cap w) := h
  clear h
  go_enter Tryd.func48, Tryd.ntmps48
  go_wp2
  go_loopw [5, 6] (fun v i wr => ∃ (acc : List UInt8) (k : Nat), i = .int .i64 k ∧ k ≤ n ∧ Hid (acc.length = k) ∧ wr.ownsRow w.heap.size 5 1 v acc.length (M.cells acc) ∧ Hid (M.Src g a len cap wr) ∧ Hid (w.grownBy wr (some g))) (fun _ i _ => n - (intOf i).toNat)
  case atStart => exact ⟨[], 0, rfl, Nat.zero_le _, rfl, ⟨rfl, .inr ⟨_, 0, #[], rfl, Nat.le_refl _, heap_alloc_new _ _, Nat.le_refl _, by decide, rfl, rfl⟩⟩, HS.out.alloc _, World.grownBy_alloc w _ (some g)⟩
  case round =>
    obtain ⟨acc, k, rfl, hk, HA, hown, HSr, HG⟩ := hrel
    by_cases hlt : k < n
    · have hal : acc.length ≤ 100000 := by have := HA.out; omega
      go_wp2_with fail
      refine (src_n _ g len cap a 256 HSr.out (by omega)).mono ?_
      rintro e w1 ⟨v, rfl, h0, h1, h2, hS, hg⟩
      have h256 := h1 (by omega)
      obtain ⟨v, rfl⟩ := Int.eq_ofNat_of_zero_le h0
      have hown1 := hown.kept hg (M.own_ne hown hgw)
      have HS1 : Hid (M.Src g a len cap w1) := hS
      have HG1 : Hid (w.grownBy w1 (some g)) := M.grown_trans HG.out hg
      have hsz : w.heap.size ≤ w1.heap.size := HG1.out.size
      clear h1 h2 hS hg hown
      go_wp2_with (at_builtin; refine wpList_append_own _ rfl (.tmp 13) (.tmp 17) 22 rfl w.heap.size 5 i0 (.int .u8 0) 1 1 Tryd.underlying22 hi hz0 hz1 hz2 rfl (by decide) _ _ _ rfl (hown1.alloc _) ⟨w1.heap.size, 0, none⟩ 1 1 [.int .u8 v] rfl rfl (cell_one_new _ _ _) ?c2 ?c3 ?c4 ?c5 ?_)
      case c2 => intro x hx; simp at hx; subst hx; rfl
      case c3 => unfold maxLen; omega
      case c4 => omega
      case c5 => simp; omega
      intro v' w2 hown' hgrow _
      rw [M.app_cells (u := v) (by omega) rfl] at hown'
      have HS2 : Hid (M.Src g a len cap w2) := (HS1.out.alloc _).kept hgrow (fun k hk => by have := ((hown1.alloc (.cells #[.int .u8 v] 5)).lt k hk).1; omega)
      have HG2 : Hid (w.grownBy w2 (some g)) := M.grown_app (M.grown_trans HG1.out (World.grownBy_alloc w1 (.cells #[.int .u8 v] 5) (some g))) (hown1.alloc _) hgrow
      clear hgrow hown1
      go_wp2
      go_roundw
      case rel => exact ⟨acc ++ [UInt8.ofNat v], k + 1, by go_num, by omega, by show _ = _; rw [List.length_append, HA.out]; rfl, by rw [List.length_append]; exact hown', HS2, HG2⟩
      case measure => simp [intOf]; omega
    · have hcv := M.conv_own Tryd.underlying22 Tryd.underlying5 Tryd.underlying9 hown
      clear hown
      go_wp2
      go_ret
      exact ⟨acc, rfl, by have := HA.out; omega, HSr.out, HG.out⟩

theorem M.zeros_conv {P : Program} {w w1 : World} {e src dst : TypeId} {n : Nat} (hs : P.underlying src = some (.slice e)) (he : P.underlying e = some (.int .u8)) (hd : P.underlying dst = some .string)
    (hown : w1.ownsRow w.heap.size e 1 (.slice (some ⟨w.heap.size, 0, none⟩) n n) n (madeCells #[Value.int .u8 0] n).toList) :
    (convert src dst (.slice (some ⟨w.heap.size, 0, none⟩) n n)).run P w1 = .ok (.string ⟨(List.replicate n (0 : UInt8)).toArray⟩) w1 := by
  refine M.conv_own hs he hd (l := List.replicate n 0) (base := w.heap.size) (n := n) ?_
  have e1 : (madeCells #[Value.int .u8 0] n).toList = M.cells (List.replicate n 0) := by
    simp [madeCells, M.cells]
    rw [List.eq_replicate_iff]
    exact ⟨by simp, by simp [Nat.mod_one]⟩
  rw [← e1]; exact hown

end Go.Proofs.YtbmbcfnlpbbapaaDoor
