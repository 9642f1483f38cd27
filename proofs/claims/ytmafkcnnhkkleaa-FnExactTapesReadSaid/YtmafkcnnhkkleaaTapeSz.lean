/-
  What szStringS, szTape and szTapeS of the laws do: how much is left.
-/
import Derived.Test.YtmafkcnnhkkleaaStrWalks
import Derived.Test.YtmafkcnnhkkleaaTapeMath
import Derived.Test.YtmafkcnnhkkleaaLinkBox
namespace Go.Proofs.Ytmafkcnnhkkleaa
open Go.RowKit

/-- How many blocks all tapes have. -/
def M.tln (ts : List M.TapeD) : Nat := (ts.map fun t => t.ss.length).sum
theorem M.tln_app (ts us : List M.TapeD) : M.tln (ts ++ us) = M.tln ts + M.tln us := by simp [M.tln]
theorem M.tln_one (t : M.TapeD) : M.tln [t] = t.ss.length := by simp [M.tln]
theorem M.take_snocG {α : Type} {l : List α} {k : Nat} {x : α} (h : l[k]? = some x) : l.take (k + 1) = l.take k ++ [x] := by
  rw [List.take_add_one, h]; rfl
theorem M.tln_take {ts : List M.TapeD} {k : Nat} {t : M.TapeD} (h : ts[k]? = some t) : M.tln (ts.take (k + 1)) = M.tln (ts.take k) + t.ss.length := by
  rw [M.take_snocG h, M.tln_app, M.tln_one]

set_option maxRecDepth 100000 in
set_option maxHeartbeats 1600000 in
theorem szStringS_left (w : World) (a : Option Addr) (len cap : Nat) (ss : List ByteArray) (left : Int) (h : M.Strs w a len cap ss) (hok : ∀ s ∈ ss, s.size ≤ maxLen) (h3 : 0 ≤ left) (h4 : left ≤ 1048576) :
    Calls Try.prog 82 #[.slice a len cap, .int .i64 left] w fun e w' => ∃ v : Int, e = .returned (.int .i64 v) ∧ v ≤ 1048576 ∧ (0 ≤ v → v + len ≤ left ∧ ∀ s ∈ ss, (s.size : Int) ≤ left) ∧ w = w' := by
  have hlm : len ≤ 9223372036854775807 := by obtain ⟨_, h1, h2, _⟩ := h; unfold maxLen at h2; omega
  have HF : Hid (M.Strs w a len cap ss) := h
  have HOK : Hid (∀ s ∈ ss, s.size ≤ maxLen) := hok
  clear h hok
  by_cases hl : left - len < 0
  · go_enter Try.func82, Try.ntmps82
    go_wp2
    go_ret
    exact ⟨-1, rfl, by omega, fun h => by omega, rfl⟩
  go_enter Try.func82, Try.ntmps82
  go_wp2
  go_loop [1, 5] (fun z i => ∃ (k : Nat) (l : Int), i = .int .i64 k ∧ z = .int .i64 l ∧ k ≤ len ∧ 0 ≤ l ∧ l + len ≤ left ∧ Hid (∀ s ∈ ss.take k, (s.size : Int) ≤ left)) (fun _ i => len - (intOf i).toNat)
  case atStart => exact ⟨0, _, rfl, rfl, Nat.zero_le _, by omega, by omega, fun f hf => by simp at hf⟩
  case round =>
    obtain ⟨k, l, rfl, rfl, hk, hl0, hl1, HA⟩ := hrel
    by_cases hlt : k < len
    · obtain ⟨hfl, _, _, hfa⟩ := HF.out
      obtain ⟨b, off, rfl, hat⟩ := hfa (by omega)
      have c0 := hat k (by omega)
      have hfk := List.getElem?_eq_getElem (l := ss) (i := k) (by omega)
      generalize ss[k]'(by omega) = s at c0 hfk
      have HFK : Hid (ss[k]? = some s) := hfk
      have o1 : s.size ≤ 9223372036854775807 := by have := HOK.out s (List.mem_of_getElem? hfk); unfold maxLen at this; omega
      clear hfk hat hfa hfl
      by_cases hs : l - s.size < 0
      · go_wp2
        go_ret
        exact ⟨-1, rfl, by omega, fun h => by omega, rfl⟩
      · have HA2 : Hid (∀ s ∈ ss.take (k + 1), (s.size : Int) ≤ left) := by
          show ∀ f ∈ _, _
          rw [M.take_snocS HFK.out]
          intro g hg
          rcases List.mem_append.1 hg with h | h
          · exact HA.out g h
          · obtain rfl := List.mem_singleton.1 h
            omega
        go_wp2
        go_round
        case rel => exact ⟨k + 1, l - s.size, by go_num, rfl, by omega, by omega, by omega, HA2⟩
        case measure => simp [intOf]; omega
    · have hall : ss.take k = ss := List.take_of_length_le (by have := HF.out.1; omega)
      have HA3 : Hid (∀ s ∈ ss, (s.size : Int) ≤ left) := by have := HA.out; rw [hall] at this; exact this
      clear hall
      go_wp2
      go_ret
      exact ⟨l, rfl, by omega, fun _ => ⟨by omega, HA3.out⟩, rfl⟩

set_option maxRecDepth 100000 in
set_option maxHeartbeats 800000 in
theorem szTape_any (w : World) (a : Option Addr) (n c : Nat) (ss : List ByteArray) (x y z left : Int) (h : M.Strs w a n c ss) (hok : ∀ s ∈ ss, s.size ≤ maxLen) (h3 : 0 ≤ left) (h4 : left ≤ 1048576) :
    Calls Try.prog 66 #[.agg #[.int .i64 x, .slice a n c, .int .i64 y, .int .i64 z], .int .i64 left] w fun e w' => ∃ v : Int, e = .returned (.int .i64 v) ∧ v ≤ 1048576 ∧ (0 ≤ v → v + n ≤ left ∧ ∀ s ∈ ss, (s.size : Int) ≤ left) ∧ Below w.heap.size w w' := by
  have HB : Hid (∀ o, Below w.heap.size w (w.alloc o)) := fun o => (Below.refl _ _).alloc (Nat.le_refl _) _
  have CS : Hid (∀ o, Calls Try.prog 82 #[.slice a n c, .int .i64 left] (w.alloc o) fun e w' => ∃ v : Int, e = .returned (.int .i64 v) ∧ v ≤ 1048576 ∧ (0 ≤ v → v + n ≤ left ∧ ∀ s ∈ ss, (s.size : Int) ≤ left) ∧ w.alloc o = w') := fun o => szStringS_left _ a n c ss left (h.below (HB.out o)) hok h3 h4
  clear h hok
  go_enter Try.func66, Try.ntmps66
  go_wp2_with fail
  refine (CS.out _).mono ?_
  rintro e w1 ⟨v, rfl, hv1, hv2, rfl⟩
  have HV2 := M.hl hv2
  clear hv2
  by_cases hneg : v < 0
  · go_wp2
    go_ret
    exact ⟨-1, rfl, by omega, fun h => by omega, HB.out _⟩
  · go_wp2
    go_ret
    exact ⟨v, rfl, hv1, HV2.out, HB.out _⟩

set_option maxRecDepth 100000 in
set_option maxHeartbeats 1600000 in
theorem szTapeS_any (w : World) (a : Option Addr) (len cap : Nat) (ts : List M.TapeD) (h : M.Tps w a len cap ts) (hok : ∀ t ∈ ts, M.tok t) :
    Calls Try.prog 25 #[.slice a len cap, .int .i64 1048576] w fun e w' => ∃ v : Int, e = .returned (.int .i64 v) ∧ v ≤ 1048576 ∧ (0 ≤ v → v + len + M.tln ts ≤ 1048576 ∧ ∀ t ∈ ts, ∀ s ∈ t.ss, (s.size : Int) ≤ 1048576) ∧ Below w.heap.size w w' := by
  have hlm : len ≤ 9223372036854775807 := h.max
  have HF := M.hl h
  have HOK := M.hl hok
  clear h hok
  by_cases hl : (1048576 : Int) - len < 0
  · go_enter Try.func25, Try.ntmps25
    go_wp2
    go_ret
    exact ⟨-1, rfl, by omega, fun h => by omega, Below.refl _ _⟩
  go_enter Try.func25, Try.ntmps25
  go_wp2
  go_loopw [1, 5] (fun z i wr => ∃ (k : Nat) (l : Int), i = .int .i64 k ∧ z = .int .i64 l ∧ k ≤ len ∧ 0 ≤ l ∧ l ≤ 1048576 ∧ Hid (l + len + M.tln (ts.take k) ≤ 1048576) ∧ Hid (∀ t ∈ ts.take k, ∀ s ∈ t.ss, (s.size : Int) ≤ 1048576) ∧ Hid (Below w.heap.size w wr)) (fun _ i _ => len - (intOf i).toNat)
  case atStart => exact ⟨0, _, rfl, rfl, Nat.zero_le _, by omega, by omega, by show _ ≤ _; simp [M.tln], fun f hf => by simp at hf, Below.refl _ _⟩
  case round =>
    obtain ⟨k, l, rfl, rfl, hk, hl0, hl2, HL, HA, HBr⟩ := hrel
    by_cases hlt : k < len
    · obtain ⟨b, off, t, rfl, hfk, hat⟩ := (HF.out.below HBr.out).at hlt
      have HFK := M.hl hfk
      have ho := (HOK.out t (List.mem_of_getElem? hfk)).1
      have HO := M.hl ho
      obtain ⟨x, ss, y, z⟩ := t
      obtain ⟨c0, ⟨a', n', c', c1, hs, -⟩, c2, c3⟩ := hat
      simp only at c0 c1 c2 c3 hs
      have HN : Hid (n' = ss.length) := hs.1
      have CS : Hid (Calls Try.prog 66 #[.agg #[.int .i64 x, .slice a' n' c', .int .i64 y, .int .i64 z], .int .i64 l] wr fun e w' => ∃ v : Int, e = .returned (.int .i64 v) ∧ v ≤ 1048576 ∧ (0 ≤ v → v + n' ≤ l ∧ ∀ s ∈ ss, (s.size : Int) ≤ l) ∧ Below wr.heap.size wr w') := szTape_any wr a' n' c' ss x y z l hs ho hl0 hl2
      clear hs hfk ho
      go_wp2_with fail
      refine CS.out.mono ?_
      rintro e w2 ⟨v, rfl, hv1, hv2, hb2⟩
      have HV2 := M.hl hv2
      have HB2 : Hid (Below w.heap.size w w2) := HBr.out.trans (hb2.mono HBr.out.size)
      clear hv2 hb2 c0 c1 c2 c3
      by_cases hneg : v < 0
      · go_wp2
        go_ret
        exact ⟨-1, rfl, by omega, fun h => by omega, HB2.out⟩
      · have HL2 : Hid (v + len + M.tln (ts.take (k + 1)) ≤ 1048576) := by
          show _ ≤ _
          rw [M.tln_take HFK.out]
          have := HL.out
          have := (HV2.out (by omega)).1
          have := HN.out
          simp only
          omega
        have HA2 : Hid (∀ t ∈ ts.take (k + 1), ∀ s ∈ t.ss, (s.size : Int) ≤ 1048576) := by
          show ∀ f ∈ _, _
          rw [M.take_snocG HFK.out]
          intro g hg s hs
          rcases List.mem_append.1 hg with h | h
          · exact HA.out g h s hs
          · obtain rfl := List.mem_singleton.1 h
            have := (HV2.out (by omega)).2 s hs
            omega
        go_wp2
        go_roundw
        case rel => exact ⟨k + 1, v, by go_num, rfl, by omega, by omega, by omega, HL2, HA2, HB2⟩
        case measure => simp [intOf]; omega
    · have hall : ts.take k = ts := List.take_of_length_le (by have := HF.out.1; omega)
      have HA3 : Hid (l + len + M.tln ts ≤ 1048576 ∧ ∀ t ∈ ts, ∀ s ∈ t.ss, (s.size : Int) ≤ 1048576) := by have h1 := HL.out; have h2 := HA.out; rw [hall] at h1 h2; exact ⟨h1, h2⟩
      clear hall
      go_wp2
      go_ret
      exact ⟨l, rfl, by omega, fun _ => HA3.out, HBr.out⟩
end Go.Proofs.Ytmafkcnnhkkleaa
