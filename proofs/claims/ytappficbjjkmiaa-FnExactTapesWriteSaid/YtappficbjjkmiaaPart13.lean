/-
  What the laws' helpers on a row of numbers that was handed in do: toInt64S, and markInt64S from any number on; such a row, opened.
-/
import Derived.Test.YtappficbjjkmiaaPart11
import Derived.Test.YtappficbjjkmiaaMidW
import Derived.ChangeSlices
import Derived.OpenShut
namespace Go.Proofs.Ytappficbjjkmiaa
open Go.RowKit

theorem M.NumsAt.nv {w : World} {g cap : Nat} {zs : List Int} (h : M.NumsAt w g cap zs) : M.NV w (some ⟨g, 0, none⟩) zs.length zs := ⟨rfl, fun _ => ⟨g, 0, rfl, fun i hi => by rw [Nat.zero_add]; exact h.cell i hi⟩⟩
theorem M.made_zeros (n : Nat) : (madeCells #[Value.int .i64 0] n).toList = (List.replicate n (0 : Int)).map M.nv := by
  rw [List.map_replicate]
  apply List.ext_getElem
  · simp [madeCells]
  · intro i h1 h2
    simp [madeCells, Nat.mod_one, M.nv]
/-- The first k numbers are these. -/
def M.Done (zs L : List Int) (k : Nat) : Prop := L.length = zs.length ∧ L.take k = zs.take k
theorem M.Done.zero {zs L : List Int} (h : L.length = zs.length) : M.Done zs L 0 := ⟨h, rfl⟩
theorem M.Done.step {zs L : List Int} {k : Nat} {z : Int} (h : M.Done zs L k) (hz : zs[k]? = some z) : M.Done zs (L.set k z) (k + 1) := by
  have hk := (List.getElem?_eq_some_iff.1 hz).1
  refine ⟨by rw [List.length_set]; exact h.1, ?_⟩
  rw [List.take_add_one, List.take_add_one, hz, List.getElem?_set_self (by rw [h.1]; exact hk), List.take_set_of_le (Nat.le_refl _), h.2]
theorem M.Done.all {zs L : List Int} {k : Nat} (h : M.Done zs L k) (hk : zs.length ≤ k) : L = zs := by
  have := h.2
  rwa [List.take_of_length_le (by rw [h.1]; exact hk), List.take_of_length_le hk] at this

set_option maxRecDepth 100000 in
set_option maxHeartbeats 1600000 in
theorem toInt64S_any (w : World) (a : Option Addr) (len cap : Nat) (zs : List Int) (h : M.NV w a len zs) (hlen : len ≤ 1048576) :
    Calls Try.prog 28 #[.slice a len cap] w fun e w' => ∃ b, e = .returned (.slice (some ⟨b, 0, none⟩) len len) ∧ M.NumsAt w' b len zs ∧ w.heap.size ≤ b ∧ Below w.heap.size w w' := by
  obtain ⟨i0, hi, hz0, hz1, hz2⟩ := info_parts Try.infoN
  have HF := M.hidn h
  have HL : Hid (len = zs.length) := h.1
  clear h
  go_enter Try.func28, Try.ntmps28
  go_wp2_with (at_make; refine wpList_make_full _ rfl (.tmp 6) (.tmp 6) 24 rfl w.heap.size 2 i0 _ 1 Try.underlying24 hi hz0 hz1 .i64 .i64 _ _ len rfl rfl rfl rfl ?c3 ?c4 ?c5 ?_)
  case c3 => rw [hz2]; omega
  case c4 => unfold maxLen; omega
  case c5 => exact Nat.le_refl _
  intro w1 hown hgrow
  have HROW : Hid (M.NumsAt w1 w.heap.size len (List.replicate len 0)) := by
    show M.NumsAt _ _ _ _
    obtain ⟨hl, h | ⟨g, cp, cur, hv, hb, hh, hn, hc, hz, ht⟩⟩ := hown
    · simp at h
    · simp only [Value.slice.injEq, Option.some.injEq, Addr.mk.injEq] at hv
      obtain ⟨⟨rfl, _, _⟩, _, rfl⟩ := hv
      refine ⟨cur, hh, by simp, by rw [hz, Nat.mul_one], ?_⟩
      rw [List.length_replicate]
      rw [Nat.mul_one] at ht
      rw [ht]
      exact M.made_zeros len
  have HB1 : Hid (Below w.heap.size w w1) := ⟨hgrow.os, hgrow.tape, hgrow.output, hgrow.size, fun k hk => hgrow.block k hk (by simp)⟩
  have HD0 : Hid (M.Done zs (List.replicate len 0) 0) := M.Done.zero (by rw [List.length_replicate]; exact HL.out)
  clear hown hgrow
  go_wp2
  go_loopw [4] (fun i wr => ∃ (k : Nat) (L : List Int), i = .int .i64 k ∧ k ≤ len ∧ Hid (M.NumsAt wr w.heap.size len L) ∧ Hid (M.Done zs L k) ∧ Hid (Below w.heap.size w wr)) (fun i _ => len - (intOf i).toNat)
  case atStart => exact ⟨0, _, rfl, Nat.zero_le _, HROW, HD0, HB1⟩
  case round =>
    obtain ⟨k, L, rfl, hk, HN, HD, HBr⟩ := hrel
    by_cases hlt : k < len
    · have hkm : k < zs.length := by have := HL.out; omega
      obtain ⟨b, off, hbo, hat⟩ := HF.out.2 (by omega)
      subst hbo
      have q0 := hat k hkm
      have hfk := List.getElem?_eq_getElem hkm
      generalize zs[k]'hkm = z at q0 hfk
      have c0 := (HBr.out.cell (p := ⟨b, off + k, none⟩) (World.block_lt_of_cell? w _ q0)).trans q0
      have hkL : k < L.length := by rw [HD.out.1]; exact hkm
      have g0 := HN.out.cell k hkL
      generalize L[k]'hkL = z0 at g0
      have f0 := HN.out.free k
      have HN2 := M.hidn (HN.out.set k z)
      have HD2 := M.hidn (HD.out.step hfk)
      have HB2 : Hid (Below w.heap.size w (wr.setCell ⟨w.heap.size, k, none⟩ (.int .i64 z))) := HBr.out.setCell (by exact Nat.le_refl _) _
      clear hat hfk hkm q0 hkL
      go_wp2
      go_roundw
      case rel => exact ⟨k + 1, L.set k z, by go_num, by omega, HN2, HD2, HB2⟩
      case measure => simp [intOf]; omega
    · have HE : Hid (L = zs) := HD.out.all (by have := HL.out; omega)
      go_wp2
      go_ret
      exact ⟨_, rfl, by rw [← HE.out]; exact HN.out, Nat.le_refl _, HBr.out⟩

set_option maxRecDepth 100000 in
set_option maxHeartbeats 1600000 in
theorem markInt64S_on (w : World) (g cap n : Nat) (zs : List Int) (u : Int) (h : M.NumsAt w g cap zs) (hn : n = zs.length) (hl : n ≤ 1048576) (hu : 0 ≤ u) (hu2 : u ≤ 400000000) :
    Calls Try.prog 32 #[.slice (some ⟨g, 0, none⟩) n cap, .int .i64 u] w fun e w' => ∃ v : Int, e = .returned (.int .i64 v) ∧ 0 ≤ v ∧ w.grownBy w' (some g) := by
  have HN := M.hidn h
  have HZ := M.hidn hn
  clear h hn
  go_enter Try.func32, Try.ntmps32
  go_wp2
  go_loopw [1, 5] (fun q i wr => ∃ (k : Nat) (L : List Int), i = .int .i64 k ∧ q = .int .i64 (u + (k : Int)) ∧ k ≤ n ∧ L.length = n ∧ Hid (M.NumsAt wr g cap L) ∧ Hid (w.grownBy wr (some g))) (fun _ i _ => n - (intOf i).toNat)
  case atStart => exact ⟨0, zs, rfl, by go_num, Nat.zero_le _, HZ.out.symm, HN, World.grownBy.refl _ _⟩
  case round =>
    obtain ⟨k, L, rfl, rfl, hk, hL, HNr, HG⟩ := hrel
    by_cases hlt : k < n
    · have hkL : k < L.length := by rw [hL]; exact hlt
      have c0 := HNr.out.cell k hkL
      generalize L[k]'hkL = z at c0
      have f0 := HNr.out.free k
      have HN2 := M.hidn (HNr.out.set k (u + (k : Int)))
      have HG2 := M.hidn (M.grownS HG.out k (.int .i64 (u + (k : Int))))
      have hL2 : (L.set k (u + (k : Int))).length = n := by rw [List.length_set]; exact hL
      clear hkL
      go_wp2
      go_roundw
      case rel => exact ⟨k + 1, L.set k (u + (k : Int)), by go_num, by go_num, by omega, hL2, HN2, HG2⟩
      case measure => simp [intOf]; omega
    · go_wp2
      go_ret
      exact ⟨_, rfl, by omega, HG.out⟩

open Go.ChangeShapes in
theorem M.open_nums {H : Type} {enc : TypeId × Value → H} {P : Program} {w : World} {base : Nat} {spare : Nat → Bool} {held : Bool} {t e : TypeId} {fuel : Nat} {cs : List Value} {x : DataW H × List MemPlace}
    (ht : P.underlying t = some (.slice e)) (he : P.underlying e = some (.int .i64)) (hc : P.cellsOf e = 1) (h : DataW.trod enc P w base spare held fuel t cs = some x) :
    ∃ (a : Option Addr) (len cap : Nat) (zs : List Int), cs = [.slice a len cap] ∧ M.NV w a len zs ∧ len ≤ maxLen := by
  rcases open_ints ht he hc h with ⟨h0, _⟩ | ⟨a, len, cap, zs, rfl, _, hl, hm, hz, _, hcell, _⟩
  · exact ⟨none, 0, 0, [], h0, ⟨rfl, fun h => absurd h (Nat.lt_irrefl _)⟩, Nat.zero_le _⟩
  have hle : len ≤ zs.length := by rw [hz]; split <;> omega
  refine ⟨some a, len, cap, zs.take len, rfl, ⟨by rw [List.length_take]; omega, fun hp => ?_⟩, by omega⟩
  obtain ⟨b, off, rfl, hat⟩ := ints_at hcell (by omega)
  refine ⟨b, off, rfl, fun i hi => ?_⟩
  rw [List.length_take] at hi
  rw [hat i (by omega), List.getElem_take, List.getD_eq_getElem?_getD, List.getElem?_eq_getElem (by omega)]
  rfl
end Go.Proofs.Ytappficbjjkmiaa

/-
  Rows of numbers behind changes elsewhere.
-/
namespace Go.Proofs.Ytappficbjjkmiaa
open Go.RowKit

theorem M.NumsAt.nvn {w : World} {g cap n : Nat} {zs : List Int} (h : M.NumsAt w g cap zs) (hn : n = zs.length) : M.NV w (some ⟨g, 0, none⟩) n zs := by subst hn; exact h.nv
theorem M.NumsAt.below {w w' : World} {g cap : Nat} {zs : List Int} (h : M.NumsAt w g cap zs) (hb : Below w.heap.size w w') : M.NumsAt w' g cap zs := h.of_block (hb.block g h.lt)
theorem M.NumsAt.mid {w w' : World} {g cap lo hi : Nat} {zs : List Int} (h : M.NumsAt w g cap zs) (hm : M.Mid lo hi w w') (ho : g < lo ∨ hi ≤ g) : M.NumsAt w' g cap zs := h.of_block (hm.block g h.lt ho)
theorem M.grown_mid {a b : World} {g : Nat} (h : a.grownBy b (some g)) : M.Mid g (g + 1) a b := M.Mid.of_grown h (fun k e => by cases e; omega)
end Go.Proofs.Ytappficbjjkmiaa
