/-
  A row of texts that a call owns and makes longer.
-/
import Derived.Test.YtappficbjjkmiaaPart3
import Derived.Test.YtappficbjjkmiaaRows
import Derived.WalkKit
import Derived.WalkSpells
import Derived.WalkLawsBesides
import Derived.Deep.RegionWith
import Derived.Deep.QuietTactic
import Derived.BigQuiet
namespace Go.Proofs.Ytappficbjjkmiaa
open Go.RowKit

theorem Try.infoTx : (Try.prog.info? 9).map (fun i => (i.zero, i.size, i.bytes)) = some (some (.string ⟨#[]⟩), 1, 16) := by kernel_rfl
/-- A slice that the call owns holds these texts. -/
def M.OwnS (w : World) (base : Nat) (v : Value) (ss : List ByteArray) : Prop := w.ownsRow base 9 1 v ss.length (ss.map Value.string)
theorem M.OwnS.nil (w : World) (base : Nat) : M.OwnS w base (.slice none 0 0) [] := ⟨rfl, .inl ⟨rfl, rfl⟩⟩
theorem M.OwnS.below {w W : World} {base : Nat} {v : Value} {ss : List ByteArray} (h : M.OwnS w base v ss) (hb : Below w.heap.size w W) : M.OwnS W base v ss := by
  obtain ⟨hl, h0 | ⟨g, cap, cur, hv, hg, hh, hn, hc, hz, ht⟩⟩ := h
  · exact ⟨hl, .inl h0⟩
  · exact ⟨hl, .inr ⟨g, cap, cur, hv, hg, by rw [hb.block g (Array.getElem?_eq_some_iff.1 hh).1]; exact hh, hn, hc, hz, ht⟩⟩
theorem M.OwnS.more {w : World} {base : Nat} {v : Value} {ss : List ByteArray} {s : ByteArray} (h : w.ownsRow base 9 1 v (ss.length + 1) (ss.map Value.string ++ [.string s])) : M.OwnS w base v (ss ++ [s]) := by
  unfold M.OwnS
  rw [List.length_append, List.map_append]
  exact h
theorem M.OwnS.strs {w : World} {base : Nat} {v : Value} {ss : List ByteArray} (h : M.OwnS w base v ss) : ∃ a cap, v = .slice a ss.length cap ∧ M.Strs w a ss.length cap ss := by
  obtain ⟨hl, ⟨rfl, h0⟩ | ⟨g, cp, cur, hv, hb, hh, hn, hc, hz, ht⟩⟩ := h
  · rw [h0]
    exact ⟨none, 0, rfl, by rw [h0], Nat.le_refl _, Nat.zero_le _, fun h => absurd h (Nat.lt_irrefl _)⟩
  · refine ⟨_, cp, hv, rfl, hn, hc, fun _ => ⟨g, 0, rfl, fun i hi => ?_⟩⟩
    have e : (ss.map Value.string)[i]? = some (.string ss[i]) := by simp [hi]
    rw [← ht, Nat.mul_one, List.getElem?_take_of_lt hi] at e
    simp only [World.cell?, hh, Nat.zero_add]
    simpa using e
theorem M.one_n (w : World) (s : ByteArray) (T : TypeId) : ∀ j u, ([Value.string s])[j]? = some u → (w.alloc (.cells #[.string s] T)).cell? ((⟨w.heap.size, 0, none⟩ : Addr).add j) = some u := by
  intro j u hu
  rw [Addr.add_lit, Nat.zero_add, World.cell?_alloc_mark]
  simpa using hu
theorem M.oneCellS (s : ByteArray) : ∀ v ∈ [Value.string s], v.oneCell' = true := by
  intro v hv
  rw [List.mem_singleton] at hv
  rw [hv]; rfl
end Go.Proofs.Ytappficbjjkmiaa

/-
  What the laws' helpers on texts do: szStringS, toStringS, eqStringS.
-/
namespace Go.Proofs.Ytappficbjjkmiaa
open Go.RowKit

theorem Try.infoS : (Try.prog.info? 9).map (fun i => (i.zero, i.size, i.bytes)) = some (some (.string ⟨#[]⟩), 1, 16) := by kernel_rfl

set_option maxRecDepth 100000 in
set_option maxHeartbeats 1600000 in
theorem szStringS_any (w : World) (a : Option Addr) (len cap : Nat) (ss : List ByteArray) (left : Int) (h : M.Strs w a len cap ss) (hok : ∀ s ∈ ss, s.size ≤ maxLen) (h3 : 0 ≤ left) (h4 : left ≤ 1048576) :
    Calls Try.prog 82 #[.slice a len cap, .int .i64 left] w fun e w' => ∃ v : Int, e = .returned (.int .i64 v) ∧ v ≤ 1048576 ∧ (0 ≤ v → (len : Int) ≤ left ∧ ∀ s ∈ ss, (s.size : Int) ≤ left) ∧ w = w' := by
  have hlm : len ≤ 9223372036854775807 := by obtain ⟨_, h1, h2, _⟩ := h; unfold maxLen at h2; omega
  have HF : Hid (M.Strs w a len cap ss) := h
  have HOK : Hid (∀ s ∈ ss, s.size ≤ maxLen) := hok
  clear h hok
  by_cases hl : left - len < 0
  · go_enter Try.func82, Try.ntmps82
    go_wp2
    go_ret
    exact ⟨-1, rfl, by omega, fun h => by omega, rfl⟩
  go_enter Try.func82, Try.ntmps82
  go_wp2
  go_loop [1, 5] (fun z i => ∃ (k : Nat) (l : Int), i = .int .i64 k ∧ z = .int .i64 l ∧ k ≤ len ∧ 0 ≤ l ∧ l ≤ left ∧ Hid (∀ s ∈ ss.take k, (s.size : Int) ≤ left)) (fun _ i => len - (intOf i).toNat)
  case atStart => exact ⟨0, _, rfl, rfl, Nat.zero_le _, by omega, by omega, fun f hf => by simp at hf⟩
  case round =>
    obtain ⟨k, l, rfl, rfl, hk, hl0, hl1, HA⟩ := hrel
    by_cases hlt : k < len
    · obtain ⟨hfl, _, _, hfa⟩ := HF.out
      obtain ⟨b, off, rfl, hat⟩ := hfa (by omega)
      have c0 := hat k (by omega)
      have hfk := List.getElem?_eq_getElem (l := ss) (i := k) (by omega)
      generalize ss[k]'(by omega) = s at c0 hfk
      have HFK : Hid (ss[k]? = some s) := hfk
      have o1 : s.size ≤ 9223372036854775807 := by have := HOK.out s (List.mem_of_getElem? hfk); unfold maxLen at this; omega
      clear hfk hat hfa hfl
      by_cases hs : l - s.size < 0
      · go_wp2
        go_ret
        exact ⟨-1, rfl, by omega, fun h => by omega, rfl⟩
      · have HA2 : Hid (∀ s ∈ ss.take (k + 1), (s.size : Int) ≤ left) := by
          show ∀ f ∈ _, _
          rw [M.take_snocS HFK.out]
          intro g hg
          rcases List.mem_append.1 hg with h | h
          · exact HA.out g h
          · obtain rfl := List.mem_singleton.1 h
            omega
        go_wp2
        go_round
        case rel => exact ⟨k + 1, l - s.size, by go_num, rfl, by omega, by omega, by omega, HA2⟩
        case measure => simp [intOf]; omega
    · have hall : ss.take k = ss := List.take_of_length_le (by have := HF.out.1; omega)
      have HA3 : Hid (∀ s ∈ ss, (s.size : Int) ≤ left) := by have := HA.out; rw [hall] at this; exact this
      clear hall
      go_wp2
      go_ret
      exact ⟨l, rfl, by omega, fun _ => ⟨by omega, HA3.out⟩, rfl⟩

/-- A block of N texts that may be written. -/
theorem M.StrsAt.push {w : World} {H k N : Nat} {T : TypeId} {ss : List ByteArray} {s : ByteArray} (h : M.StrsAt w H 0 ss) (hr : M.Row w H T N) (hk : ss.length = k) (hN : k < N) : M.StrsAt (w.setCell ⟨H, k, none⟩ (.string s)) H 0 (ss ++ [s]) := by
  intro i hi
  rw [List.length_append] at hi
  rw [Nat.zero_add]
  by_cases e : i = k
  · subst e
    obtain ⟨v, hv⟩ := hr.cell (i := i) hN
    rw [World.cell?_setCell_same _ _ _ hv]
    simp [← hk]
  · have hi' : i < ss.length := by simp at hi; omega
    rw [World.cell?_setCell_other _ _ _ _ (by simp <;> omega), List.getElem_append_left hi']
    have := h i hi'
    rwa [Nat.zero_add] at this

set_option maxRecDepth 100000 in
set_option maxHeartbeats 1600000 in
theorem toStringS_any (w : World) (a : Option Addr) (len cap : Nat) (ss : List ByteArray) (h : M.Strs w a len cap ss) (hlen : len ≤ 1048576) :
    Calls Try.prog 83 #[.slice a len cap] w fun e w' => e = .returned (.slice (some ⟨w.heap.size, 0, none⟩) len len) ∧ M.StrsAt w' w.heap.size 0 ss ∧ M.Row w' w.heap.size 9 len ∧ Below w.heap.size w w' := by
  obtain ⟨i0, hi, hz0, hz1, hz2⟩ := info_parts Try.infoS
  have HF : Hid (M.Strs w a len cap ss) := h
  clear h
  go_enter Try.func83, Try.ntmps83
  go_wp2_with (at_make; refine wpList_make_full _ rfl (.tmp 6) (.tmp 6) 34 rfl w.heap.size 9 i0 _ 1 Try.underlying34 hi hz0 hz1 .i64 .i64 _ _ len rfl rfl rfl rfl ?c3 ?c4 ?c5 ?_)
  case c3 => rw [hz2]; omega
  case c4 => unfold maxLen; omega
  case c5 => exact Nat.le_refl _
  intro w1 hown hgrow
  have hrow : M.Row w1 w.heap.size 9 len := by
    obtain ⟨hl, h | ⟨g, cp, cur, hv, hb, hh, hn, hc, hz, ht⟩⟩ := hown
    · simp at h
    · simp only [Value.slice.injEq, Option.some.injEq, Addr.mk.injEq] at hv
      obtain ⟨⟨rfl, _, _⟩, _, rfl⟩ := hv
      exact ⟨cur, hh, by rw [hz, Nat.mul_one]⟩
  have hb1 : Below w.heap.size w w1 := ⟨hgrow.os, hgrow.tape, hgrow.output, hgrow.size, fun k hk => hgrow.block k hk (by simp)⟩
  have HROW : Hid (M.Row w1 w.heap.size 9 len) := hrow
  have HB1 : Hid (Below w.heap.size w w1) := hb1
  clear hown hgrow hrow hb1
  go_wp2
  go_loopw [4] (fun i wr => ∃ k : Nat, i = .int .i64 k ∧ k ≤ len ∧ Hid (M.Row wr w.heap.size 9 len) ∧ Hid (M.StrsAt wr w.heap.size 0 (ss.take k)) ∧ Hid (Below w.heap.size w wr)) (fun i _ => len - (intOf i).toNat)
  case atStart => exact ⟨0, rfl, Nat.zero_le _, HROW, fun i hi => by simp at hi, HB1⟩
  case round =>
    obtain ⟨k, rfl, hk, HRr, HFr, HBr⟩ := hrel
    by_cases hlt : k < len
    · obtain ⟨hfl, _, _, hfa⟩ := HF.out.below HBr.out
      obtain ⟨b, off, rfl, hat⟩ := hfa (by omega)
      have c0 := hat k (by omega)
      have hfk := List.getElem?_eq_getElem (l := ss) (i := k) (by omega)
      generalize ss[k]'(by omega) = s at c0 hfk
      have HFK : Hid (ss[k]? = some s) := hfk
      have HLN : Hid (len = ss.length) := hfl
      obtain ⟨v0, g0⟩ := HRr.out.cell (i := k) hlt
      have e0 := HRr.out.free k
      clear hfk hat hfa hfl
      go_wp2
      go_roundw
      case rel =>
        have hp := M.StrsAt.push (k := k) (s := s) HFr.out HRr.out (by have := HLN.out; simp; omega) hlt
        refine ⟨k + 1, by go_num, by omega, HRr.out.setCell _ _, ?_, HBr.out.setCell (Nat.le_refl _) _⟩
        show M.StrsAt _ _ _ _
        rw [M.take_snocS HFK.out]; exact hp
      case measure => simp [intOf]; omega
    · have hall : ss.take k = ss := List.take_of_length_le (by have := HF.out.1; omega)
      have HF3 : Hid (M.StrsAt wr w.heap.size 0 ss) := by have := HFr.out; rw [hall] at this; exact this
      clear hall
      go_wp2
      go_ret
      exact ⟨rfl, HF3.out, HRr.out, HBr.out⟩

set_option maxRecDepth 100000 in
set_option maxHeartbeats 1600000 in
theorem eqStringS_any (w : World) (a a' : Option Addr) (len cap len' cap' : Nat) (ss ts : List ByteArray) (h : M.Strs w a len cap ss) (h' : M.Strs w a' len' cap' ts) :
    Calls Try.prog 84 #[.slice a len cap, .slice a' len' cap'] w fun e w' => ∃ v : Bool, e = .returned (.bool v) ∧ (v = true ↔ ss = ts) ∧ Below w.heap.size w w' := by
  have hlm : len ≤ 9223372036854775807 := by obtain ⟨_, h1, h2, _⟩ := h; unfold maxLen at h2; omega
  have hlm' : len' ≤ 9223372036854775807 := by obtain ⟨_, h1, h2, _⟩ := h'; unfold maxLen at h2; omega
  have HF : Hid (M.Strs w a len cap ss) := h
  have HG : Hid (M.Strs w a' len' cap' ts) := h'
  clear h h'
  by_cases hne : len = len'
  · subst hne
    have d0 : ((len : Int) != (len : Int)) = false := by simp
    go_enter Try.func84, Try.ntmps84
    go_wp2
    go_loopw [5] (fun i wr => ∃ k : Nat, i = .int .i64 k ∧ k ≤ len ∧ Hid (ss.take k = ts.take k) ∧ Hid (Below w.heap.size w wr)) (fun i _ => len - (intOf i).toNat)
    case atStart => exact ⟨0, rfl, Nat.zero_le _, rfl, Below.refl _ _⟩
    case round =>
      obtain ⟨k, rfl, hk, HT, HBr⟩ := hrel
      by_cases hlt : k < len
      · obtain ⟨hfl, _, _, hfa⟩ := HF.out.below HBr.out
        obtain ⟨b, off, rfl, hat⟩ := hfa (by omega)
        have c0 := hat k (by omega)
        have hfk := List.getElem?_eq_getElem (l := ss) (i := k) (by omega)
        generalize ss[k]'(by omega) = s at c0 hfk
        have HFK : Hid (ss[k]? = some s) := hfk
        clear hfk hat hfa hfl
        obtain ⟨hfl, _, _, hfa⟩ := HG.out.below HBr.out
        obtain ⟨b', off', rfl, hat⟩ := hfa (by omega)
        have e0 := hat k (by omega)
        have hfk := List.getElem?_eq_getElem (l := ts) (i := k) (by omega)
        generalize ts[k]'(by omega) = t at e0 hfk
        have HGK : Hid (ts[k]? = some t) := hfk
        clear hfk hat hfa hfl
        cases hq : (s.toList == t.toList)
        · have HNE : Hid (ss ≠ ts) := fun e => by
            have h1 := HFK.out
            rw [e, HGK.out] at h1
            rw [Option.some.inj h1] at hq
            simp at hq
          go_wp2
          go_quiet (fail)
          go_wp2
          go_ret
          exact ⟨false, rfl, ⟨fun h => by simp at h, fun h => absurd h HNE.out⟩, below_drewN HBr.out _⟩
        · have HT2 : Hid (ss.take (k + 1) = ts.take (k + 1)) := by
            show _ = _
            rw [M.take_snocS HFK.out, M.take_snocS HGK.out, HT.out, M.bytes_eq (a := s) (b := t) (by simpa using hq)]
          go_wp2
          go_quiet (fail)
          go_wp2
          go_roundw
          case rel => exact ⟨k + 1, by go_num, by omega, HT2, below_drewN HBr.out _⟩
          case measure => simp [intOf]; omega
      · have e1 : ss.take k = ss := List.take_of_length_le (by have := HF.out.1; omega)
        have e2 : ts.take k = ts := List.take_of_length_le (by have := HG.out.1; omega)
        have HE : Hid (ss = ts) := by have := HT.out; rw [e1, e2] at this; exact this
        clear e1 e2
        go_wp2
        go_ret
        exact ⟨true, rfl, ⟨fun _ => HE.out, fun _ => rfl⟩, HBr.out⟩
  · have d0 : ((len : Int) != (len' : Int)) = true := by rw [bne_iff_ne]; omega
    go_enter Try.func84, Try.ntmps84
    go_wp2
    go_ret
    exact ⟨false, rfl, ⟨fun h => by simp at h, fun h => absurd (by rw [HF.out.1, HG.out.1, h]) hne⟩, Below.refl _ _⟩
end Go.Proofs.Ytappficbjjkmiaa
