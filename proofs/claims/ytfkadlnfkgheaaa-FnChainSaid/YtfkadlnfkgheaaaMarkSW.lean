/-
  What the laws' helpers on marks do: szMarkS, toMark, toMarkS, eqMark, eqMarkS.
-/
import Derived.Test.YtfkadlnfkgheaaaRows
import Derived.Test.YtfkadlnfkgheaaaTowRight
import Derived.WalkKit
import Derived.WalkSpells
import Derived.WalkLawsBesides
import Derived.Deep.RegionWith
namespace Go.Proofs.Ytfkadlnfkgheaaa
open Go.RowKit

theorem Try.infoMk : (Try.prog.info? 31).map (fun i => (i.zero, i.size, i.bytes)) = some (some (.agg #[.int .i64 0, .int .i64 0, .int .i64 0]), 3, 24) := by kernel_rfl

set_option maxHeartbeats 400000 in
theorem szMarkS_any (w : World) (a : Option Addr) (len cap : Nat) (ms : List M.MkD) (h : M.Mks w a len cap ms) :
    Calls Try.prog 19 #[.slice a len cap, .int .i64 1048576] w fun e w' => ∃ v : Int, e = .returned (.int .i64 v) ∧ (0 ≤ v → len ≤ 1048576) ∧ v ≤ 1048576 ∧ w = w' := by
  have hlm : len ≤ 9223372036854775807 := by obtain ⟨_, h1, h2, _⟩ := h; unfold maxLen at h2; omega
  clear h
  by_cases hl : (1048576 : Int) - len < 0
  · go_enter Try.func19, Try.ntmps19
    go_wp2
    go_ret
    exact ⟨-1, rfl, fun h => by omega, by omega, rfl⟩
  · go_enter Try.func19, Try.ntmps19
    go_wp2
    go_ret
    exact ⟨_, rfl, fun _ => by omega, by omega, rfl⟩

set_option maxRecDepth 100000 in
set_option maxHeartbeats 800000 in
theorem toMark_any (m : M.MkD) (w : World) :
    Calls Try.prog 41 #[M.mval m] w fun e w' => e = .returned (M.mval m) ∧ Below w.heap.size w w' := by
  obtain ⟨x, l, b⟩ := m
  show Calls Try.prog 41 #[.agg #[.int .i64 x, .int .i64 l, .int .i64 b]] w _
  go_enter Try.func41, Try.ntmps41
  go_wp2
  refine bodyPost_ret (v := .agg #[.int .i64 x, .int .i64 l, .int .i64 b]) (by simp [results, Try.results41, go_sem]) rfl ⟨rfl, ?_⟩
  exact (((Below.refl _ _).alloc (Nat.le_refl _) _).alloc (by simp) _).alloc (by simp; omega) _

set_option maxRecDepth 100000 in
set_option maxHeartbeats 1600000 in
theorem toMarkS_row (w : World) (a : Option Addr) (len cap : Nat) (ms : List M.MkD) (h : M.Mks w a len cap ms) (hlen : len ≤ 1048576) :
    Calls Try.prog 20 #[.slice a len cap] w fun e w' => e = .returned (.slice (some ⟨w.heap.size, 0, none⟩) len len) ∧ M.MksAt w' w.heap.size 0 ms ∧ M.Row w' w.heap.size 31 (len * 3) ∧ Below w.heap.size w w' := by
  obtain ⟨i0, hi, hz0, hz1, hz2⟩ := info_parts Try.infoMk
  have HF : Hid (M.Mks w a len cap ms) := h
  clear h
  go_enter Try.func20, Try.ntmps20
  go_wp2_with (at_make; refine wpList_make_full _ rfl (.tmp 6) (.tmp 6) 23 rfl w.heap.size 31 i0 _ 3 Try.underlying23 hi hz0 hz1 .i64 .i64 _ _ len rfl rfl rfl rfl ?c3 ?c4 ?c5 ?_)
  case c3 => rw [hz2]; omega
  case c4 => unfold maxLen; omega
  case c5 => exact Nat.le_refl _
  intro w1 hown hgrow
  have hrow : M.Row w1 w.heap.size 31 (len * 3) := by
    obtain ⟨hl, h | ⟨g, cp, cur, hv, hb, hh, hn, hc, hz, ht⟩⟩ := hown
    · simp at h
    · simp only [Value.slice.injEq, Option.some.injEq, Addr.mk.injEq] at hv
      obtain ⟨⟨rfl, _, _⟩, _, rfl⟩ := hv
      exact ⟨cur, hh, hz⟩
  have hb1 : Below w.heap.size w w1 := ⟨hgrow.os, hgrow.tape, hgrow.output, hgrow.size, fun k hk => hgrow.block k hk (by simp)⟩
  have HROW : Hid (M.Row w1 w.heap.size 31 (len * 3)) := hrow
  have HB1 : Hid _ := hb1
  clear hown hgrow hrow hb1
  go_wp2
  go_loopw [4] (fun i wr => ∃ k : Nat, i = .int .i64 k ∧ k ≤ len ∧ Hid (M.Row wr w.heap.size 31 (len * 3)) ∧ Hid (M.MksAt wr w.heap.size 0 (ms.take k)) ∧ Hid (Below w.heap.size w wr)) (fun i _ => len - (intOf i).toNat)
  case atStart => exact ⟨0, rfl, Nat.zero_le _, HROW, fun i hi => by simp at hi, HB1⟩
  case round =>
    obtain ⟨k, rfl, hk, HRr, HFr, HBr⟩ := hrel
    by_cases hlt : k < len
    · obtain ⟨hfl, _, _, hfa⟩ := HF.out.below HBr.out
      obtain ⟨b, off, rfl, hat⟩ := hfa (by omega)
      obtain ⟨c0, c1, c2⟩ := hat k (by omega)
      have hfk := List.getElem?_eq_getElem (l := ms) (i := k) (by omega)
      generalize ms[k]'(by omega) = f at c0 c1 c2 hfk
      have HFK : Hid (ms[k]? = some f) := hfk
      have HLN : Hid (len = ms.length) := hfl
      clear hfk hat hfa hfl
      have hT := toMark_any f
      unfold M.mval at hT
      have HT : Hid _ := hT
      clear hT
      go_wp2_with fail
      refine (HT.out _).mono ?_
      rintro e w2 ⟨rfl, hb2⟩
      have hblk := hb2.block w.heap.size HRr.out.lt
      have hR2 := HRr.out.of_block hblk
      have hF2 := HFr.out.of_block hblk
      have HR2 : Hid (M.Row w2 w.heap.size 31 (len * 3)) := hR2
      have HF2 : Hid (M.MksAt w2 w.heap.size 0 (ms.take k)) := hF2
      have HB2 : Hid (Below w.heap.size w w2) := HBr.out.trans (hb2.mono HBr.out.size)
      obtain ⟨v0, g0⟩ := hR2.cell (i := k * 3) (by omega)
      obtain ⟨v1, g1⟩ := hR2.cell (i := k * 3 + 1) (by omega)
      obtain ⟨v2, g2⟩ := hR2.cell (i := k * 3 + 2) (by omega)
      have e0 := hR2.free (k * 3)
      have e1 := hR2.free (k * 3 + 1)
      have e2 := hR2.free (k * 3 + 2)
      clear hb2 hblk hR2 hF2 c0 c1 c2
      go_wp2
      go_roundw
      case rel =>
        have hp := M.MksAt.push (k := k) (f := f) HF2.out HR2.out (by have := HLN.out; simp; omega) (by omega)
        refine ⟨k + 1, by go_num, by omega, HR2.out.set3 _ _ _ _, ?_, ?_⟩
        · show M.MksAt _ _ _ _
          rw [M.take_snocM HFK.out]; exact hp
        · exact (((HB2.out.setCell (by exact Nat.le_refl _) _).setCell (by exact Nat.le_refl _) _).setCell (by exact Nat.le_refl _) _)
      case measure => simp [intOf]; omega
    · have hall : ms.take k = ms := List.take_of_length_le (by have := HF.out.1; omega)
      have HF3 : Hid (M.MksAt wr w.heap.size 0 ms) := by have := HFr.out; rw [hall] at this; exact this
      clear hall
      go_wp2
      go_ret
      exact ⟨rfl, HF3.out, HRr.out, HBr.out⟩
/-- In few words: the same marks in memory of their own. -/
theorem toMarkS_any (w : World) (a : Option Addr) (len cap : Nat) (ms : List M.MkD) (h : M.Mks w a len cap ms) (hlen : len ≤ 1048576) :
    Calls Try.prog 20 #[.slice a len cap] w fun e w' => ∃ b, e = .returned (.slice (some ⟨b, 0, none⟩) len len) ∧ M.Mks w' (some ⟨b, 0, none⟩) len len ms ∧ M.Row w' b 31 (len * 3) ∧ w.heap.size ≤ b ∧ Below w.heap.size w w' := by
  refine (toMarkS_row w a len cap ms h hlen).mono ?_
  rintro e w' ⟨rfl, hat, hr, hb⟩
  exact ⟨_, rfl, ⟨h.1, Nat.le_refl _, by unfold maxLen; omega, fun _ => ⟨_, 0, rfl, hat⟩⟩, hr, Nat.le_refl _, hb⟩

def M.meq (a b : M.MkD) : Bool := a.id == b.id && a.level == b.level && a.base == b.base
theorem M.meq_iff {a b : M.MkD} : M.meq a b = true ↔ a = b := by
  unfold M.meq
  obtain ⟨x, l, b1⟩ := a
  obtain ⟨x', l', b'⟩ := b
  simp [and_assoc]
set_option maxRecDepth 100000 in
set_option maxHeartbeats 800000 in
theorem eqMark_any (f g : M.MkD) (w : World) :
    Calls Try.prog 42 #[M.mval f, M.mval g] w fun e w' => e = .returned (.bool (M.meq f g)) ∧ Below w.heap.size w w' := by
  obtain ⟨m, t, x⟩ := f
  obtain ⟨m', t', x'⟩ := g
  have fin : Below w.heap.size w ((w.alloc (.cells #[.int .i64 m, .int .i64 t, .int .i64 x] 31)).alloc (.cells #[.int .i64 m', .int .i64 t', .int .i64 x'] 31)) :=
    ((Below.refl _ _).alloc (Nat.le_refl _) _).alloc (by simp) _
  have FIN : Hid _ := fin
  clear fin
  show Calls Try.prog 42 #[.agg #[.int .i64 m, .int .i64 t, .int .i64 x], .agg #[.int .i64 m', .int .i64 t', .int .i64 x']] w _
  unfold M.meq
  simp only
  cases h3 : (m == m')
  · go_enter Try.func42, Try.ntmps42
    go_wp2
    go_ret
    exact ⟨rfl, FIN.out⟩
  cases h4 : (t == t')
  · go_enter Try.func42, Try.ntmps42
    go_wp2
    go_ret
    exact ⟨rfl, FIN.out⟩
  cases h5 : (x == x')
  · go_enter Try.func42, Try.ntmps42
    go_wp2
    go_ret
    exact ⟨rfl, FIN.out⟩
  · go_enter Try.func42, Try.ntmps42
    go_wp2
    go_ret
    exact ⟨rfl, FIN.out⟩

set_option maxRecDepth 100000 in
set_option maxHeartbeats 1600000 in
theorem eqMarkS_same (w : World) (a a' : Option Addr) (len cap len' cap' : Nat) (ms : List M.MkD) (h : M.Mks w a len cap ms) (h' : M.Mks w a' len' cap' ms) :
    Calls Try.prog 21 #[.slice a len cap, .slice a' len' cap'] w fun e w' => e = .returned (.bool true) ∧ Below w.heap.size w w' := by
  have hlm : len ≤ 9223372036854775807 := by obtain ⟨_, h1, h2, _⟩ := h; unfold maxLen at h2; omega
  have HF : Hid (M.Mks w a len cap ms) := h
  have HG : Hid (M.Mks w a' len' cap' ms) := h'
  obtain rfl : len = len' := by rw [h.1, h'.1]
  clear h h'
  have d0 : ((len : Int) != (len : Int)) = false := by simp
  go_enter Try.func21, Try.ntmps21
  go_wp2
  go_loopw [5] (fun i wr => ∃ k : Nat, i = .int .i64 k ∧ k ≤ len ∧ Hid (Below w.heap.size w wr)) (fun i _ => len - (intOf i).toNat)
  case atStart => exact ⟨0, rfl, Nat.zero_le _, Below.refl _ _⟩
  case round =>
    obtain ⟨k, rfl, hk, HBr⟩ := hrel
    by_cases hlt : k < len
    · obtain ⟨hfl, _, _, hfa⟩ := HF.out.below HBr.out
      obtain ⟨b, off, rfl, hat⟩ := hfa (by omega)
      obtain ⟨c0, c1, c2⟩ := hat k (by omega)
      obtain ⟨hfl', _, _, hfa'⟩ := HG.out.below HBr.out
      obtain ⟨b', off', rfl, hat'⟩ := hfa' (by omega)
      obtain ⟨e0, e1, e2⟩ := hat' k (by omega)
      generalize ms[k]'(by omega) = f at c0 c1 c2 e0 e1 e2
      clear hat hfa hfl hat' hfa' hfl'
      have hq := eqMark_any f f
      rw [M.meq_iff.2 rfl] at hq
      unfold M.mval at hq
      have HQ : Hid _ := hq
      clear hq
      go_wp2_with fail
      go_region_with (go_at_call 42; refine (HQ.out _).mono ?_; rintro e w2 ⟨rfl, hb2⟩)
      all_goals
        go_wp2
        go_roundw
        case rel => exact ⟨k + 1, by go_num, by omega, HBr.out.trans ((show Below wr.heap.size wr w2 from ⟨hb2.os, hb2.tape, hb2.output, hb2.size, hb2.block⟩).mono HBr.out.size)⟩
        case measure => simp [intOf]; omega
    · go_wp2
      go_ret
      exact ⟨rfl, HBr.out⟩
end Go.Proofs.Ytfkadlnfkgheaaa
