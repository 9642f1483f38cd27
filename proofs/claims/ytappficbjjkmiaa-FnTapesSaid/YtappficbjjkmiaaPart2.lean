/-
  Facts on bytes, for buffers of them.
-/
import Derived.Test.YtappficbjjkmiaaRows
import Derived.Test.YtappficbjjkmiaaJoined
import Derived.Test.YtappficbjjkmiaaPart1
namespace Go.Proofs.Ytappficbjjkmiaa
open Go.RowKit

theorem Try.infoB : (Try.prog.info? 5).map (fun i => (i.zero, i.size, i.bytes)) = some (some (.int .u8 0), 1, 1) := by kernel_rfl
theorem Try.sizeB (w : World) : (Go.sizeOf 5).run Try.prog w = .ok 1 w := by kernel_rfl
end Go.Proofs.Ytappficbjjkmiaa

/-
  Bytes 0 as a text.
-/
namespace Go.Proofs.Ytappficbjjkmiaa
open Go.RowKit

theorem M.zeros_conv {P : Program} {w w1 : World} {e src dst : TypeId} {n : Nat} (hs : P.underlying src = some (.slice e)) (he : P.underlying e = some (.int .u8)) (hd : P.underlying dst = some .string)
    (hown : w1.ownsRow w.heap.size e 1 (.slice (some ⟨w.heap.size, 0, none⟩) n n) n (madeCells #[Value.int .u8 0] n).toList) :
    (convert src dst (.slice (some ⟨w.heap.size, 0, none⟩) n n)).run P w1 = .ok (.string ⟨(List.replicate n (0 : UInt8)).toArray⟩) w1 := by
  refine M.conv_own hs he hd (l := List.replicate n 0) (base := w.heap.size) (n := n) ?_
  have e1 : (madeCells #[Value.int .u8 0] n).toList = M.cells (List.replicate n 0) := by
    simp [madeCells, M.cells]
    rw [List.eq_replicate_iff]
    exact ⟨by simp, by simp [Nat.mod_one]⟩
  rw [← e1]; exact hown
end Go.Proofs.Ytappficbjjkmiaa

/-
  Draws of texts, told as far as the laws of chapter 2 need them.
-/
namespace Go.Proofs.Ytappficbjjkmiaa
open Go.RowKit

theorem M.own_ne {w W : World} {g : Nat} {e : TypeId} {n : Nat} {v : Value} {xs : List Value} (h : W.ownsRow w.heap.size e 1 v n xs) (hg : g < w.heap.size) : v.ownBlock = none ∨ v.ownBlock ≠ some g := by
  cases hv : v.ownBlock with
  | none => exact .inl rfl
  | some k => exact .inr (fun e => by have := (h.lt k hv).1; have := Option.some.inj e; omega)
theorem M.grown_app {w W W1 : World} {g : Nat} {e : TypeId} {n : Nat} {v : Value} {xs : List Value} (h : w.grownBy W (some g)) (ho : W.ownsRow w.heap.size e 1 v n xs) (k : W.grownBy W1 v.ownBlock) : w.grownBy W1 (some g) :=
  ⟨k.os.trans h.os, k.tape.trans h.tape, k.output.trans h.output, Nat.le_trans h.size k.size, fun i hi hne => (k.block i (Nat.lt_of_lt_of_le hi h.size) (fun e => by have := (ho.lt i e.symm).1; omega)).trans (h.block i hi hne)⟩

set_option maxRecDepth 100000 in
set_option maxHeartbeats 800000 in
theorem src_bytes (w : World) (g len cap : Nat) (a : Option Addr) (n : Nat) (h : M.Src g a len cap w) (hn : n ≤ 100000) :
    Calls Try.prog 47 #[.pointer (some ⟨g, 0, none⟩), .int .i64 n] w fun e w' => ∃ l : List UInt8, e = .returned (.string ⟨l.toArray⟩) ∧ l.length = n ∧ M.Src g a len cap w' ∧ w.grownBy w' (some g) := by
  obtain ⟨i0, hi, hz0, hz1, hz2⟩ := info_parts Try.infoB
  have hgw := h.lt
  have HS : Hid (M.Src g a len cap w) := h
  clear h
  go_enter Try.func47, Try.ntmps47
  go_wp2
  go_loopw [5, 6] (fun v i wr => ∃ (acc : List UInt8) (k : Nat), i = .int .i64 k ∧ k ≤ n ∧ Hid (acc.length = k) ∧ wr.ownsRow w.heap.size 5 1 v acc.length (M.cells acc) ∧ Hid (M.Src g a len cap wr) ∧ Hid (w.grownBy wr (some g))) (fun _ i _ => n - (intOf i).toNat)
  case atStart => exact ⟨[], 0, rfl, Nat.zero_le _, rfl, ⟨rfl, .inr ⟨_, 0, #[], rfl, Nat.le_refl _, heap_alloc_new _ _, Nat.le_refl _, by decide, rfl, rfl⟩⟩, HS.out.alloc _, World.grownBy_alloc w _ (some g)⟩
  case round =>
    obtain ⟨acc, k, rfl, hk, HA, hown, HSr, HG⟩ := hrel
    by_cases hlt : k < n
    · have hal : acc.length ≤ 100000 := by have := HA.out; omega
      go_wp2_with fail
      refine (src_n _ g len cap a 256 HSr.out (by omega)).mono ?_
      rintro e w1 ⟨v, rfl, h0, h1, h2, hS, hg⟩
      have h256 := h1 (by omega)
      obtain ⟨v, rfl⟩ := Int.eq_ofNat_of_zero_le h0
      have hown1 := hown.kept hg (M.own_ne hown hgw)
      have HS1 : Hid (M.Src g a len cap w1) := hS
      have HG1 : Hid (w.grownBy w1 (some g)) := M.grown_trans HG.out hg
      have hsz : w.heap.size ≤ w1.heap.size := HG1.out.size
      clear h1 h2 hS hg hown
      go_wp2_with (at_builtin; refine wpList_append_own _ rfl (.tmp 13) (.tmp 17) 22 rfl w.heap.size 5 i0 (.int .u8 0) 1 1 Try.underlying22 hi hz0 hz1 hz2 rfl (by decide) _ _ _ rfl (hown1.alloc _) ⟨w1.heap.size, 0, none⟩ 1 1 [.int .u8 v] rfl rfl (cell_one_new _ _ _) ?c2 ?c3 ?c4 ?c5 ?_)
      case c2 => intro x hx; simp at hx; subst hx; rfl
      case c3 => unfold maxLen; omega
      case c4 => omega
      case c5 => simp; omega
      intro v' w2 hown' hgrow _
      rw [M.app_cells (u := v) (by omega) rfl] at hown'
      have HS2 : Hid (M.Src g a len cap w2) := (HS1.out.alloc _).kept hgrow (fun k hk => by have := ((hown1.alloc (.cells #[.int .u8 v] 5)).lt k hk).1; omega)
      have HG2 : Hid (w.grownBy w2 (some g)) := M.grown_app (M.grown_trans HG1.out (World.grownBy_alloc w1 (.cells #[.int .u8 v] 5) (some g))) (hown1.alloc _) hgrow
      clear hgrow hown1
      go_wp2
      go_roundw
      case rel => exact ⟨acc ++ [UInt8.ofNat v], k + 1, by go_num, by omega, by show _ = _; rw [List.length_append, HA.out]; rfl, by rw [List.length_append]; exact hown', HS2, HG2⟩
      case measure => simp [intOf]; omega
    · have hcv := M.conv_own Try.underlying22 Try.underlying5 Try.underlying9 hown
      clear hown
      go_wp2
      go_ret
      exact ⟨acc, rfl, by have := HA.out; omega, HSr.out, HG.out⟩
end Go.Proofs.Ytappficbjjkmiaa
