/-
  A row of numbers that a call owns.
-/
import Derived.Test.YtappficbjjkmiaaRows
import Derived.WalkKit
import Derived.WalkSpells
import Derived.WalkLawsBesides
namespace Go.Proofs.Ytappficbjjkmiaa
open Go.RowKit

theorem Try.infoN : (Try.prog.info? 2).map (fun i => (i.zero, i.size, i.bytes)) = some (some (.int .i64 0), 1, 8) := by kernel_rfl
def M.nv (n : Int) : Value := .int .i64 n
/-- A slice that the call owns holds these numbers. -/
def M.OwnN (w : World) (base : Nat) (v : Value) (zs : List Int) : Prop := w.ownsRow base 2 1 v zs.length (zs.map M.nv)
theorem M.OwnN.nil (w : World) (base : Nat) : M.OwnN w base (.slice none 0 0) [] := ⟨rfl, .inl ⟨rfl, rfl⟩⟩
theorem M.OwnN.below {w W : World} {base : Nat} {v : Value} {zs : List Int} (h : M.OwnN w base v zs) (hb : Below w.heap.size w W) : M.OwnN W base v zs := by
  obtain ⟨hl, h0 | ⟨g, cap, cur, hv, hg, hh, hn, hc, hz, ht⟩⟩ := h
  · exact ⟨hl, .inl h0⟩
  · exact ⟨hl, .inr ⟨g, cap, cur, hv, hg, by rw [hb.block g (Array.getElem?_eq_some_iff.1 hh).1]; exact hh, hn, hc, hz, ht⟩⟩
theorem M.OwnN.down {w : World} {b b' : Nat} {v : Value} {zs : List Int} (h : M.OwnN w b v zs) (hb : b' ≤ b) : M.OwnN w b' v zs := by
  obtain ⟨hl, h0 | ⟨g, cap, cur, hv, hg, hr⟩⟩ := h
  · exact ⟨hl, .inl h0⟩
  · exact ⟨hl, .inr ⟨g, cap, cur, hv, Nat.le_trans hb hg, hr⟩⟩
theorem M.OwnN.more {w : World} {base : Nat} {v : Value} {zs : List Int} {z : Int} (h : w.ownsRow base 2 1 v (zs.length + 1) (zs.map M.nv ++ [M.nv z])) : M.OwnN w base v (zs ++ [z]) := by
  unfold M.OwnN
  rw [List.length_append, List.map_append]
  exact h
/-- The numbers lie in a row of a block that may be written. -/
def M.NumsAt (w : World) (g cap : Nat) (zs : List Int) : Prop := ∃ cur, w.heap[g]? = some (.cells cur 2 (0, 0)) ∧ zs.length ≤ cap ∧ cur.size = cap ∧ cur.toList.take zs.length = zs.map M.nv
theorem M.OwnN.at {w : World} {base : Nat} {v : Value} {zs : List Int} (h : M.OwnN w base v zs) : (v = .slice none 0 0 ∧ zs = []) ∨ ∃ g cap, v = .slice (some ⟨g, 0, none⟩) zs.length cap ∧ base ≤ g ∧ cap ≤ maxLen ∧ M.NumsAt w g cap zs := by
  obtain ⟨hl, ⟨h0, h1⟩ | ⟨g, cap, cur, hv, hg, hh, hn, hc, hz, ht⟩⟩ := h
  · exact .inl ⟨h0, List.eq_nil_of_length_eq_zero h1⟩
  · exact .inr ⟨g, cap, hv, hg, hc, cur, hh, hn, by rw [hz, Nat.mul_one], by rw [← ht, Nat.mul_one]⟩
theorem M.NumsAt.own {w : World} {g cap base : Nat} {zs : List Int} (h : M.NumsAt w g cap zs) (hc : cap ≤ maxLen) (hg : base ≤ g) : M.OwnN w base (.slice (some ⟨g, 0, none⟩) zs.length cap) zs := by
  obtain ⟨cur, hh, hn, hz, ht⟩ := h
  exact ⟨by simp, .inr ⟨g, cap, cur, rfl, hg, hh, hn, hc, by rw [hz, Nat.mul_one], by rw [Nat.mul_one, ht]⟩⟩
theorem M.NumsAt.lt {w : World} {g cap : Nat} {zs : List Int} (h : M.NumsAt w g cap zs) : g < w.heap.size := by
  obtain ⟨cur, hh, _⟩ := h
  exact (Array.getElem?_eq_some_iff.1 hh).1
theorem M.NumsAt.cell {w : World} {g cap : Nat} {zs : List Int} (h : M.NumsAt w g cap zs) (i : Nat) (hi : i < zs.length) : w.cell? ⟨g, i, none⟩ = some (.int .i64 zs[i]) := by
  obtain ⟨cur, hh, hn, hz, ht⟩ := h
  have e : (zs.map M.nv)[i]? = some (.int .i64 zs[i]) := by simp [hi, M.nv]
  rw [← ht, List.getElem?_take_of_lt hi] at e
  simp only [World.cell?, hh]
  simpa using e
theorem M.NumsAt.free {w : World} {g cap : Nat} {zs : List Int} (h : M.NumsAt w g cap zs) (i : Nat) : w.frozen? ⟨g, i, none⟩ = false := by
  obtain ⟨cur, hh, _⟩ := h
  simp [World.frozen?, hh]
theorem M.NumsAt.of_block {w w' : World} {g cap : Nat} {zs : List Int} (h : M.NumsAt w g cap zs) (hb : w'.heap[g]? = w.heap[g]?) : M.NumsAt w' g cap zs := by
  obtain ⟨cur, hh, hr⟩ := h
  exact ⟨cur, hb.trans hh, hr⟩
theorem M.NumsAt.set {w : World} {g cap : Nat} {zs : List Int} (h : M.NumsAt w g cap zs) (i : Nat) (z : Int) : M.NumsAt (w.setCell ⟨g, i, none⟩ (.int .i64 z)) g cap (zs.set i z) := by
  obtain ⟨cur, hh, hn, hz, ht⟩ := h
  refine ⟨cur.setIfInBounds i (.int .i64 z), ?_, by rw [List.length_set]; exact hn, by rw [Array.size_setIfInBounds]; exact hz, ?_⟩
  · simp only [World.setCell, Array.getElem?_modify, hh]
    simp
  · rw [List.length_set, Array.toList_setIfInBounds, List.take_set, ht, List.map_set]
    rfl
theorem M.grownS {w0 W : World} {g : Nat} (h : w0.grownBy W (some g)) (j : Nat) (v : Value) : w0.grownBy (W.setCell ⟨g, j, none⟩ v) (some g) :=
  ⟨h.os, h.tape, h.output, by have := h.size; simp [World.setCell]; omega, fun k hk hne => by
    rw [Below.heap_setCell W ⟨g, j, none⟩ v k (fun e => hne (by rw [e]))]; exact h.block k hk hne⟩
end Go.Proofs.Ytappficbjjkmiaa

/-
  What the laws' helpers on numbers do: eqInt64S, markInt64S.
-/
namespace Go.Proofs.Ytappficbjjkmiaa
open Go.RowKit

theorem M.hidn {p : Prop} (h : p) : Hid p := h
/-- A slice of numbers, as it is read. -/
def M.NV (w : World) (a : Option Addr) (len : Nat) (zs : List Int) : Prop := len = zs.length ∧ (0 < len → ∃ b off, a = some ⟨b, off, none⟩ ∧ ∀ i (h : i < zs.length), w.cell? ⟨b, off + i, none⟩ = some (.int .i64 zs[i]))
theorem M.OwnN.nv {w : World} {base : Nat} {v : Value} {zs : List Int} (h : M.OwnN w base v zs) : ∃ a cap, v = .slice a zs.length cap ∧ M.NV w a zs.length zs := by
  rcases h.at with ⟨rfl, rfl⟩ | ⟨g, cap, rfl, hg, hc, hN⟩
  · exact ⟨none, 0, rfl, rfl, fun h => absurd h (Nat.lt_irrefl _)⟩
  · exact ⟨_, cap, rfl, rfl, fun _ => ⟨g, 0, rfl, fun i hi => by rw [Nat.zero_add]; exact hN.cell i hi⟩⟩
theorem M.OwnN.grown {W W' : World} {base : Nat} {v : Value} {zs : List Int} {row : Option Nat} (h : M.OwnN W base v zs) (hg : W.grownBy W' row) (hne : ∀ j, v.ownBlock = some j → some j ≠ row) : M.OwnN W' base v zs := by
  obtain ⟨hl, h0 | ⟨g, cap, cur, hv, hb, hh, hr⟩⟩ := h
  · exact ⟨hl, .inl h0⟩
  · exact ⟨hl, .inr ⟨g, cap, cur, hv, hb, by rw [hg.block g (Array.getElem?_eq_some_iff.1 hh).1 (hne g (by rw [hv]; rfl))]; exact hh, hr⟩⟩

set_option maxRecDepth 100000 in
set_option maxHeartbeats 1600000 in
theorem eqInt64S_nv (w : World) (a a' : Option Addr) (len cap cap' : Nat) (zs : List Int) (h : M.NV w a len zs) (h' : M.NV w a' len zs) (hl : len ≤ 2000000) :
    Calls Try.prog 30 #[.slice a len cap, .slice a' len cap'] w fun e w' => e = .returned (.bool true) ∧ Below w.heap.size w w' := by
  have HF := M.hidn h
  have HG := M.hidn h'
  clear h h'
  have d0 : ((len : Int) != (len : Int)) = false := by simp
  go_enter Try.func30, Try.ntmps30
  go_wp2
  go_loopw [5] (fun i wr => ∃ k : Nat, i = .int .i64 k ∧ k ≤ len ∧ Hid (Below w.heap.size w wr)) (fun i _ => len - (intOf i).toNat)
  case atStart => exact ⟨0, rfl, Nat.zero_le _, Below.refl _ _⟩
  case round =>
    obtain ⟨k, rfl, hk, HBr⟩ := hrel
    by_cases hlt : k < len
    · obtain ⟨hfl, hfa⟩ := HF.out
      obtain ⟨b, off, rfl, hat⟩ := hfa (by omega)
      have c0 := hat k (by omega)
      obtain ⟨hfl', hfa'⟩ := HG.out
      obtain ⟨b', off', rfl, hat'⟩ := hfa' (by omega)
      have e0 := hat' k (by omega)
      generalize zs[k]'(by omega) = z at c0 e0
      have c1 := (HBr.out.cell (p := ⟨b, off + k, none⟩) (World.block_lt_of_cell? w _ c0)).trans c0
      have e1 := (HBr.out.cell (p := ⟨b', off' + k, none⟩) (World.block_lt_of_cell? w _ e0)).trans e0
      have dz : (z != z) = false := by simp
      have HBD : Hid (Below w.heap.size w wr.drew) := HBr.out.trans (((Below.refl _ _).drew : Below wr.heap.size wr wr.drew).mono HBr.out.size)
      clear hat hfa hfl hat' hfa' hfl' c0 e0
      go_wp2_with fail
      go_region
      go_wp2
      refine ⟨⟨k + 1, by go_num, by omega, ?_⟩, by simp [intOf]; omega⟩
      exact HBD
    · go_wp2
      go_ret
      exact ⟨rfl, HBr.out⟩
theorem eqInt64S_same (w : World) (b b' : Nat) (v v' : Value) (zs : List Int) (h : M.OwnN w b v zs) (h' : M.OwnN w b' v' zs) (hl : zs.length ≤ 1000000) :
    Calls Try.prog 30 #[v, v'] w fun e w' => e = .returned (.bool true) ∧ Below w.heap.size w w' := by
  obtain ⟨a, cap, rfl, hv⟩ := h.nv
  obtain ⟨a', cap', rfl, hv'⟩ := h'.nv
  exact eqInt64S_nv w a a' _ cap cap' zs hv hv' (by omega)

/-- The numbers from 1 on. -/
def M.cnt (n : Nat) : List Int := (List.range n).map fun (i : Nat) => (i : Int) + 1
theorem M.cnt_len (n : Nat) : (M.cnt n).length = n := by simp [M.cnt]
theorem M.cnt_at {n i : Nat} (h : i < (M.cnt n).length) : (M.cnt n)[i] = (i : Int) + 1 := by simp [M.cnt]
set_option maxRecDepth 100000 in
set_option maxHeartbeats 1600000 in
theorem markInt64S_at (w : World) (g cap : Nat) (zs : List Int) (h : M.NumsAt w g cap zs) (hl : zs.length ≤ 1000000) :
    Calls Try.prog 32 #[.slice (some ⟨g, 0, none⟩) zs.length cap, .int .i64 1] w fun e w' => e = .returned (.int .i64 ((zs.length : Int) + 1)) ∧ M.NumsAt w' g cap (M.cnt zs.length) ∧ w.grownBy w' (some g) := by
  have HN := M.hidn h
  obtain ⟨n, hn⟩ : ∃ n, n = zs.length := ⟨_, rfl⟩
  have HZ := M.hidn hn
  rw [← hn] at hl ⊢
  clear h hn
  go_enter Try.func32, Try.ntmps32
  go_wp2
  go_loopw [1, 5] (fun q i wr => ∃ (k : Nat) (L : List Int), i = .int .i64 k ∧ q = .int .i64 ((k : Int) + 1) ∧ k ≤ n ∧ Hid (L.length = n ∧ ∀ t (h : t < L.length), t < k → L[t] = (t : Int) + 1) ∧ Hid (M.NumsAt wr g cap L) ∧ Hid (w.grownBy wr (some g))) (fun _ i _ => n - (intOf i).toNat)
  case atStart => exact ⟨0, zs, rfl, rfl, Nat.zero_le _, ⟨HZ.out.symm, fun t _ h => absurd h (Nat.not_lt_zero _)⟩, HN, World.grownBy.refl _ _⟩
  case round =>
    obtain ⟨k, L, rfl, rfl, hk, HL, HNr, HG⟩ := hrel
    by_cases hlt : k < n
    · have hkL : k < L.length := by rw [HL.out.1]; exact hlt
      have c0 := HNr.out.cell k hkL
      generalize L[k]'hkL = z at c0
      have f0 := HNr.out.free k
      have HL2 : Hid ((L.set k ((k : Int) + 1)).length = n ∧ ∀ t (h : t < (L.set k ((k : Int) + 1)).length), t < k + 1 → (L.set k ((k : Int) + 1))[t] = (t : Int) + 1) := by
        refine ⟨by rw [List.length_set]; exact HL.out.1, fun t ht htk => ?_⟩
        rw [List.length_set] at ht
        by_cases e : t = k
        · subst e; rw [List.getElem_set_self]
        · rw [List.getElem_set_ne (by omega)]; exact HL.out.2 t ht (by omega)
      have HN2 := M.hidn (HNr.out.set k ((k : Int) + 1))
      have HG2 := M.hidn (M.grownS HG.out k (.int .i64 ((k : Int) + 1)))
      clear hkL
      go_wp2
      go_roundw
      case rel => exact ⟨k + 1, L.set k ((k : Int) + 1), by go_num, by go_num, by omega, HL2, HN2, HG2⟩
      case measure => simp [intOf]; omega
    · have HE : Hid (L = M.cnt n) := by
        show _ = _
        apply List.ext_getElem
        · rw [M.cnt_len]; exact HL.out.1
        · intro i h1 h2
          rw [M.cnt_at h2]
          exact HL.out.2 i h1 (by rw [HL.out.1] at h1; omega)
      obtain rfl : k = n := by omega
      go_wp2
      go_ret
      exact ⟨rfl, by rw [← HE.out]; exact HNr.out, HG.out⟩
theorem markInt64S_own (w : World) (base : Nat) (v : Value) (zs : List Int) (h : M.OwnN w base v zs) (hl : zs.length ≤ 1000000) :
    Calls Try.prog 32 #[v, .int .i64 1] w fun e w' => e = .returned (.int .i64 ((zs.length : Int) + 1)) ∧ M.OwnN w' base v (M.cnt zs.length) ∧ w.grownBy w' v.ownBlock := by
  rcases h.at with ⟨rfl, rfl⟩ | ⟨g, cap, rfl, hg, hc, hN⟩
  · go_enter Try.func32, Try.ntmps32
    go_wp2
    go_loopw [1, 5] (fun q i wr => q = .int .i64 1 ∧ i = .int .i64 0 ∧ wr = w) (fun _ _ _ => 0)
    case atStart => exact ⟨rfl, rfl, rfl⟩
    case round =>
      obtain ⟨rfl, rfl, rfl⟩ := hrel
      go_wp2
      go_ret
      exact ⟨rfl, M.OwnN.nil _ _, World.grownBy.refl _ _⟩
  · refine (markInt64S_at w g cap zs hN hl).mono ?_
    rintro e w' ⟨rfl, hN', hg'⟩
    refine ⟨rfl, ?_, hg'⟩
    have := hN'.own (base := base) hc hg
    rwa [M.cnt_len] at this
end Go.Proofs.Ytappficbjjkmiaa
