/-
  Draws of a list of numbers.
-/
import Derived.Test.YtfkadlnfkgheaaaSrcWalks
import Derived.Test.YtfkadlnfkgheaaaNumSW
namespace Go.Proofs.Ytfkadlnfkgheaaa
open Go.RowKit

theorem M.Src.born {W : World} {g : Nat} {a : Option Addr} {len cap : Nat} (h : M.Src g a len cap W) (o : Obj) : M.Src g a len cap (W.alloc o) :=
  h.kept (World.grownBy_alloc W o none) (fun k hk => by simp at hk)
theorem M.Src.below {W W' : World} {g : Nat} {a : Option Addr} {len cap : Nat} (h : M.Src g a len cap W) (hb : Below W.heap.size W W') : M.Src g a len cap W' :=
  h.kept (row := none) ⟨hb.os, hb.tape, hb.output, hb.size, fun i hi _ => hb.block i hi⟩ (fun k hk => by simp at hk)
/-- But for the source's block, what lay there lies there. -/
theorem M.gb {w W W' : World} {g : Nat} (h : w.grownBy W (some g)) (hb : Below W.heap.size W W') : w.grownBy W' (some g) :=
  ⟨hb.os.trans h.os, hb.tape.trans h.tape, hb.output.trans h.output, Nat.le_trans h.size hb.size, fun i hi hne => (hb.block i (Nat.lt_of_lt_of_le hi h.size)).trans (h.block i hi hne)⟩
theorem M.gown {w W W1 : World} {g : Nat} {row : Option Nat} (h : w.grownBy W (some g)) (k : W.grownBy W1 row) (ho : ∀ j, row = some j → w.heap.size ≤ j) : w.grownBy W1 (some g) :=
  ⟨k.os.trans h.os, k.tape.trans h.tape, k.output.trans h.output, Nat.le_trans h.size k.size, fun i hi hne => (k.block i (Nat.lt_of_lt_of_le hi h.size) (fun e => by have := ho i e.symm; omega)).trans (h.block i hi hne)⟩

set_option maxRecDepth 100000 in
set_option maxHeartbeats 800000 in
theorem src_between (w : World) (g len cap : Nat) (a : Option Addr) (h : M.Src g a len cap w) :
    Calls Try.prog 53 #[.pointer (some ⟨g, 0, none⟩), .int .i64 0, .int .i64 16] w fun e w' => ∃ v : Int, e = .returned (.int .i64 v) ∧ M.Src g a len cap w' ∧ w.grownBy w' (some g) := by
  have HS := M.hidm h
  clear h
  go_enter Try.func53, Try.ntmps53
  go_wp2_with fail
  refine (src_n _ g len cap a 17 HS.out (by omega)).mono ?_
  rintro e w1 ⟨v, rfl, h0, h1, h2, hS, hg⟩
  have h17 := h1 (by omega)
  clear h1 h2
  go_wp2
  go_ret
  exact ⟨_, rfl, hS, hg⟩

set_option maxRecDepth 100000 in
set_option maxHeartbeats 1600000 in
theorem src_list (w : World) (g len cap : Nat) (a : Option Addr) (n : Nat) (h : M.Src g a len cap w) (hn : n ≤ 100) :
    Calls Try.prog 38 #[.pointer (some ⟨g, 0, none⟩), .int .i64 n, .int .i64 0, .int .i64 16] w fun e w' => ∃ (v : Value) (zs : List Int), e = .returned v ∧ zs.length ≤ 100 ∧ M.OwnN w' w.heap.size v zs ∧ M.Src g a len cap w' ∧ w.grownBy w' (some g) := by
  obtain ⟨i0, hi, hz0, hz1, hz2⟩ := info_parts Try.infoN
  have hgw := h.lt
  have HS := M.hidm h
  clear h
  have A0 : Hid (M.OwnN (w.alloc (.cells #[] 2)) w.heap.size (.slice (some ⟨w.heap.size, 0, none⟩) 0 0) []) := M.NumsAt.own (zs := []) ⟨#[], heap_alloc_new _ _, Nat.le_refl _, rfl, rfl⟩ (Nat.zero_le _) (Nat.le_refl _)
  go_enter Try.func38, Try.ntmps38
  go_wp2
  go_loopw [1, 9] (fun i v wr => ∃ (k : Nat) (acc : List Int), i = .int .i64 k ∧ k ≤ n ∧ acc.length + k ≤ n ∧ Hid (M.OwnN wr w.heap.size v acc) ∧ Hid (M.Src g a len cap wr) ∧ Hid (w.grownBy wr (some g))) (fun i _ _ => (intOf i).toNat)
  case atStart => exact ⟨n, [], rfl, Nat.le_refl _, by simp, A0, HS.out.born _, World.grownBy_alloc w _ (some g)⟩
  case round =>
    obtain ⟨k, acc, rfl, hk, hac, HO, HSr, HG⟩ := hrel
    by_cases hlt : 0 < k
    · have d0 : decide (0 < (k : Int)) = true := decide_eq_true (by omega)
      obtain ⟨k', rfl⟩ : ∃ k', k = k' + 1 := ⟨k - 1, by omega⟩
      clear hlt
      go_wp2_with fail
      refine (src_between _ g len cap a HSr.out).mono ?_
      rintro e w1 ⟨v, rfl, hS, hg⟩
      have hown : w1.ownsRow w.heap.size 2 1 _ acc.length (acc.map M.nv) := HO.out.grown hg (fun j hj e => by have := (World.ownsRow.lt HO.out j hj).1; have := Option.some.inj e; omega)
      have HS1 := M.hidm hS
      have HG1 : Hid (w.grownBy w1 (some g)) := M.grown_trans HG.out hg
      have hsz : w.heap.size ≤ w1.heap.size := HG1.out.size
      clear hS hg HO
      go_wp2_with (at_builtin; refine wpList_append_own _ rfl (.tmp 15) (.tmp 20) 26 rfl w.heap.size 2 i0 (.int .i64 0) 1 8 Try.underlying26 hi hz0 hz1 hz2 rfl (by decide) _ _ _ rfl (World.ownsRow.alloc hown _) ⟨w1.heap.size, 0, none⟩ 1 1 [.int .i64 v] rfl rfl (cell_one_new _ _ _) ?c2 ?c3 ?c4 ?c5 ?_)
      case c2 => exact fun u hu => by rw [List.mem_singleton.1 hu]; rfl
      case c3 => unfold maxLen; omega
      case c4 => omega
      case c5 => simp; omega
      intro v' w2 hown' hgrow _
      have HO2 : Hid (M.OwnN w2 w.heap.size v' (acc ++ [v])) := M.OwnN.more hown'
      have hgall : w1.grownBy w2 _ := ((World.grownBy_alloc w1 _ none).but _).trans hgrow
      have HS2 : Hid (M.Src g a len cap w2) := HS1.out.kept hgall (fun k hk => by have := (World.ownsRow.lt hown k hk).1; omega)
      have HG2 : Hid (w.grownBy w2 (some g)) := M.gown HG1.out hgall (fun k hk => (World.ownsRow.lt hown k hk).1)
      have hl2 : (acc ++ [v]).length + k' ≤ n := by simp; omega
      clear hown' hgrow hgall hown
      go_wp2
      go_roundw
      case rel => exact ⟨k', acc ++ [v], by go_num, by omega, hl2, HO2, HS2, HG2⟩
      case measure => simp [intOf]
    · have d0 : decide (0 < k) = false := decide_eq_false hlt
      go_wp2
      go_ret
      exact ⟨_, acc, rfl, by omega, HO.out, HSr.out, HG.out⟩
end Go.Proofs.Ytfkadlnfkgheaaa
