/-
  What 'joined' of the program does: two texts, one behind the other.
-/
import Derived.Test.YtephjmlcbpfnaaaGreatDoorRows
import Derived.Test.YtephjmlcbpfnaaaGreatDoorPart5
import Derived.Test.YtephjmlcbpfnaaaGreatDoorOwnBytes
import Derived.Lib.ConvBytes
import Derived.Laws.IdiomCopy
namespace Go.Proofs.YtephjmlcbpfnaaaGreatDoor
open Go.RowKit

set_option maxRecDepth 100000 in
set_option maxHeartbeats 800000 in
theorem joined_any (a b : ByteArray) (w : World) (ha : a.size ≤ 1099511627776) (hb : b.size ≤ 1099511627776) :
    Calls Tryz.prog 76 #[.string a, .string b] w fun e w' => e = .returned (.string (a ++ b)) ∧ Below w.heap.size w w' := by
  obtain ⟨i0, hi, hz0, hz1, hz2⟩ := info_parts Tryz.infoB
  have hJ : Hid ((⟨(a.data.toList ++ b.data.toList).toArray⟩ : ByteArray) = a ++ b) := M.bytes_join a b
  go_enter Tryz.func76, Tryz.ntmps76
  go_wp2_with (at_make; refine wpList_make_full _ rfl (.tmp 10) (.tmp 10) 61 rfl w.heap.size 5 i0 (.int .u8 0) 1 Tryz.underlying61 hi hz0 hz1 .i64 .i64 _ _ (a.size + b.size) rfl rfl ?c1 ?c2 ?c3 ?c4 ?c5 ?_)
  case c1 => omega
  case c2 => omega
  case c3 => rw [hz2]; omega
  case c4 => unfold maxLen; omega
  case c5 => exact Nat.le_refl _
  intro w1 hown hgrow
  have hbuf := M.buf_made hown hgrow
  obtain ⟨wr1, hr1, hb1⟩ := M.copy_str (P := Tryz.prog) w w1 w.heap.size (a.size + b.size) [] a 61 9 3 5 Tryz.underlying61 Tryz.sizeB hbuf (by simp)
  rw [show ([] : List UInt8).length = 0 from rfl, Lib.tailV_zero] at hr1
  rw [List.nil_append] at hb1
  obtain ⟨wr2, hr2, hb2⟩ := M.copy_str (P := Tryz.prog) w wr1 w.heap.size (a.size + b.size) a.data.toList b 61 9 3 5 Tryz.underlying61 Tryz.sizeB hb1 (by rw [← Lib.size_eq]; omega)
  rw [← Lib.size_eq] at hr2
  have hsl := fun W => Lib.run_slice_tailV (P := Tryz.prog) W 61 5 Tryz.underlying61 Tryz.sizeB w.heap.size (a.size + b.size) a.size (by omega)
  have hcv := M.conv_buf Tryz.underlying61 Tryz.underlying5 Tryz.underlying9 hb2 (by rw [List.length_append, ← Lib.size_eq, ← Lib.size_eq])
  have hB : Hid (Below w.heap.size w wr2) := hb2.below
  clear hown hgrow hbuf hb1 hb2
  go_wp2
  go_ret
  exact ⟨by rw [← hJ.out]; rfl, hB.out⟩

end Go.Proofs.YtephjmlcbpfnaaaGreatDoor

/-
  What PutNum of the program and of the specification do: both answer the seven-bit digits of the number's u.
-/
namespace Go.Proofs.YtephjmlcbpfnaaaGreatDoor
open Go.RowKit

set_option maxHeartbeats 400000 in
theorem sFold_any (n : Int) (w : World) (h1 : -9223372036854775808 ≤ n) (h2 : n ≤ 9223372036854775807) :
    Calls Tryz.prog 93 #[.int .i64 n] w fun e w' => e = .returned (.int .u64 (M.foldZ n)) ∧ w = w' := by
  by_cases h : n < 0
  · have e := M.foldZ_neg h
    have E : Hid ((M.foldZ n : Int) = 2 * (-(n + 1)) + 1) := e
    clear e
    go_enter Tryz.func93, Tryz.ntmps93
    go_wp2
    go_ret
    rw [E.out]
    exact ⟨rfl, rfl⟩
  · have e := M.foldZ_pos h
    have E : Hid ((M.foldZ n : Int) = 2 * n) := e
    clear e
    go_enter Tryz.func93, Tryz.ntmps93
    go_wp2
    go_ret
    rw [E.out]
    exact ⟨rfl, rfl⟩

set_option maxHeartbeats 400000 in
theorem iFold_any (n : Int) (w : World) (h1 : -9223372036854775808 ≤ n) (h2 : n ≤ 9223372036854775807) :
    Calls Tryz.prog 75 #[.int .i64 n] w fun e w' => e = .returned (.int .u64 (M.foldZ n)) ∧ w = w' := by
  by_cases h : n < 0
  · have e := M.foldZ_neg h
    have E : Hid ((M.foldZ n : Int) = 2 * (-(n + 1)) + 1) := e
    clear e
    go_enter Tryz.func75, Tryz.ntmps75
    go_wp2
    go_ret
    rw [E.out]
    exact ⟨rfl, rfl⟩
  · have e := M.foldZ_pos h
    have E : Hid ((M.foldZ n : Int) = 2 * n) := e
    clear e
    go_enter Tryz.func75, Tryz.ntmps75
    go_wp2
    go_ret
    rw [E.out]
    exact ⟨rfl, rfl⟩

set_option maxRecDepth 100000 in
set_option maxHeartbeats 800000 in
theorem iPutNum_any (n : Int) (w : World) (h1 : -9223372036854775808 ≤ n) (h2 : n ≤ 9223372036854775807) :
    Calls Tryz.prog 42 #[.int .i64 n] w fun e w' => e = .returned (.string ⟨(M.enc (M.foldZ n)).toArray⟩) ∧ Below w.heap.size w w' := by
  obtain ⟨i0, hi, hz0, hz1, hz2⟩ := info_parts Tryz.infoB
  have hU := M.foldZ_lt h1 h2
  have hL := M.enc_len (M.foldZ n)
  go_enter Tryz.func42, Tryz.ntmps42
  go_wp2_with (go_at_call 75; refine (iFold_any _ _ h1 h2).mono ?_; rintro e w' ⟨rfl, rfl⟩)
  go_loopw [3, 4] (fun v r wr => ∃ (acc : List UInt8) (u : Nat), r = .int .u64 u ∧ Hid (u < 18446744073709551616) ∧ Hid (acc ++ M.enc u = M.enc (M.foldZ n)) ∧ wr.ownsRow w.heap.size 5 1 v acc.length (M.cells acc) ∧ Below w.heap.size w wr) (fun _ r _ => (intOf r).toNat)
  case atStart => exact ⟨[], _, rfl, show _ < _ by omega, rfl, World.ownsRow_nil _ _ _ _, Below.refl _ _⟩
  case round =>
    obtain ⟨acc, u, rfl, hu, HE, hown, hbel⟩ := hrel
    have hal : acc.length ≤ 10 := by
      have := congrArg List.length HE.out
      have hul := M.enc_len u
      simp at this; omega
    have hu1 : (u : Int) ≤ 18446744073709551615 := by have := hu.out; omega
    clear hL hU
    by_cases hlt : u < 128
    · have hE : M.enc (M.foldZ n) = acc ++ [UInt8.ofNat u] := by rw [← HE.out, M.enc_small hlt]
      have H2 : Hid (M.enc (M.foldZ n) = acc ++ [UInt8.ofNat u]) := hE
      clear hE HE
      go_wp2_with (at_builtin; refine wpList_append_own _ rfl (.tmp 18) (.tmp 21) 61 rfl w.heap.size 5 i0 (.int .u8 0) 1 1 Tryz.underlying61 hi hz0 hz1 hz2 rfl (by decide) _ _ _ rfl (hown.alloc _) ⟨wr.heap.size, 0, none⟩ 1 1 [.int .u8 u] rfl rfl (cell_one_new _ _ _) ?c2 ?c3 ?c4 ?c5 ?_)
      case c2 => intro x hx; simp at hx; subst hx; rfl
      case c3 => unfold maxLen; omega
      case c4 => omega
      case c5 => have := hbel.size; simp; omega
      intro v' w1 hown' hgrow _
      rw [M.app_cells (u := u) (by omega) rfl] at hown'
      have hcv := M.conv_own Tryz.underlying61 Tryz.underlying5 Tryz.underlying9 hown'
      have hb1 := M.app_below hbel hown hgrow
      clear hown' hgrow hown hbel
      go_wp2
      go_ret
      exact ⟨by rw [H2.out]; rfl, hb1⟩
    · go_wp2_with (at_builtin; refine wpList_append_own _ rfl (.tmp 9) (.tmp 14) 61 rfl w.heap.size 5 i0 (.int .u8 0) 1 1 Tryz.underlying61 hi hz0 hz1 hz2 rfl (by decide) _ _ _ rfl (hown.alloc _) ⟨wr.heap.size, 0, none⟩ 1 1 [.int .u8 (u % 128 + 128)] rfl rfl (cell_one_new _ _ _) ?d2 ?d3 ?d4 ?d5 ?_)
      case d2 => intro x hx; simp at hx; subst hx; rfl
      case d3 => unfold maxLen; omega
      case d4 => omega
      case d5 => have := hbel.size; simp; omega
      intro v' w1 hown' hgrow _
      rw [M.app_cells (u := u % 128 + 128) (by omega) (by omega)] at hown'
      have hb1 := M.app_below hbel hown hgrow
      have H2 : Hid ((acc ++ [UInt8.ofNat (u % 128 + 128)]) ++ M.enc (u / 128) = M.enc (M.foldZ n)) := by
        have := HE.out
        rw [M.enc_big hlt hu.out] at this
        show _ = _
        rw [← this]; simp
      clear hgrow hown hbel HE
      go_wp2
      go_roundw
      case rel =>
        have hv : u / 128 < 18446744073709551616 := by have := hu.out; omega
        exact ⟨acc ++ [UInt8.ofNat (u % 128 + 128)], u / 128, by go_num, hv, H2, by rw [List.length_append]; exact hown', hb1⟩
      case measure => simp [intOf]; omega
set_option maxRecDepth 100000 in
set_option maxHeartbeats 800000 in
theorem sPutNum_any (n : Int) (w : World) (h1 : -9223372036854775808 ≤ n) (h2 : n ≤ 9223372036854775807) :
    Calls Tryz.prog 69 #[.int .i64 n] w fun e w' => e = .returned (.string ⟨(M.enc (M.foldZ n)).toArray⟩) ∧ Below w.heap.size w w' := by
  obtain ⟨i0, hi, hz0, hz1, hz2⟩ := info_parts Tryz.infoB
  have hU := M.foldZ_lt h1 h2
  have hL := M.enc_len (M.foldZ n)
  go_enter Tryz.func69, Tryz.ntmps69
  go_wp2_with (go_at_call 93; refine (sFold_any _ _ h1 h2).mono ?_; rintro e w' ⟨rfl, rfl⟩)
  go_loopw [3, 4] (fun r v wr => ∃ (acc : List UInt8) (u : Nat), r = .int .u64 u ∧ Hid (u < 18446744073709551616) ∧ Hid (acc ++ M.enc u = M.enc (M.foldZ n)) ∧ wr.ownsRow w.heap.size 5 1 v acc.length (M.cells acc) ∧ Below w.heap.size w wr) (fun r _ _ => (intOf r).toNat)
  case atStart => exact ⟨[], _, rfl, show _ < _ by omega, rfl, ⟨rfl, .inr ⟨_, 0, #[], rfl, Nat.le_refl _, heap_alloc_new _ _, Nat.le_refl _, by decide, rfl, rfl⟩⟩, (Below.refl _ _).alloc (Nat.le_refl _) _⟩
  case round =>
    obtain ⟨acc, u, rfl, hu, HE, hown, hbel⟩ := hrel
    have hal : acc.length ≤ 10 := by
      have := congrArg List.length HE.out
      have hul := M.enc_len u
      simp at this; omega
    have hu1 : (u : Int) ≤ 18446744073709551615 := by have := hu.out; omega
    clear hL hU
    by_cases hlt : u < 128
    · have hE : M.enc (M.foldZ n) = acc ++ [UInt8.ofNat u] := by rw [← HE.out, M.enc_small hlt]
      have H2 : Hid (M.enc (M.foldZ n) = acc ++ [UInt8.ofNat u]) := hE
      clear hE HE
      go_wp2_with (at_builtin; refine wpList_append_own _ rfl (.tmp 19) (.tmp 22) 61 rfl w.heap.size 5 i0 (.int .u8 0) 1 1 Tryz.underlying61 hi hz0 hz1 hz2 rfl (by decide) _ _ _ rfl (hown.alloc _) ⟨wr.heap.size, 0, none⟩ 1 1 [.int .u8 u] rfl rfl (cell_one_new _ _ _) ?c2 ?c3 ?c4 ?c5 ?_)
      case c2 => intro x hx; simp at hx; subst hx; rfl
      case c3 => unfold maxLen; omega
      case c4 => omega
      case c5 => have := hbel.size; simp; omega
      intro v' w1 hown' hgrow _
      rw [M.app_cells (u := u) (by omega) rfl] at hown'
      have hcv := M.conv_own Tryz.underlying61 Tryz.underlying5 Tryz.underlying9 hown'
      have hb1 := M.app_below hbel hown hgrow
      clear hown' hgrow hown hbel
      go_wp2
      go_ret
      exact ⟨by rw [H2.out]; rfl, hb1⟩
    · go_wp2_with (at_builtin; refine wpList_append_own _ rfl (.tmp 10) (.tmp 15) 61 rfl w.heap.size 5 i0 (.int .u8 0) 1 1 Tryz.underlying61 hi hz0 hz1 hz2 rfl (by decide) _ _ _ rfl (hown.alloc _) ⟨wr.heap.size, 0, none⟩ 1 1 [.int .u8 (u % 128 + 128)] rfl rfl (cell_one_new _ _ _) ?d2 ?d3 ?d4 ?d5 ?_)
      case d2 => intro x hx; simp at hx; subst hx; rfl
      case d3 => unfold maxLen; omega
      case d4 => omega
      case d5 => have := hbel.size; simp; omega
      intro v' w1 hown' hgrow _
      rw [M.app_cells (u := u % 128 + 128) (by omega) (by omega)] at hown'
      have hb1 := M.app_below hbel hown hgrow
      have H2 : Hid ((acc ++ [UInt8.ofNat (u % 128 + 128)]) ++ M.enc (u / 128) = M.enc (M.foldZ n)) := by
        have := HE.out
        rw [M.enc_big hlt hu.out] at this
        show _ = _
        rw [← this]; simp
      clear hgrow hown hbel HE
      go_wp2
      go_roundw
      case rel =>
        have hv : u / 128 < 18446744073709551616 := by have := hu.out; omega
        exact ⟨acc ++ [UInt8.ofNat (u % 128 + 128)], u / 128, by go_num, hv, H2, by rw [List.length_append]; exact hown', hb1⟩
      case measure => simp [intOf]; omega

end Go.Proofs.YtephjmlcbpfnaaaGreatDoor

/-
  What 'joined' and PutText of the program, and PutText of the specification do.
-/
namespace Go.Proofs.YtephjmlcbpfnaaaGreatDoor
open Go.RowKit


set_option maxRecDepth 100000 in
set_option maxHeartbeats 800000 in
theorem iPutText_any (s : ByteArray) (w : World) (hs : s.size ≤ maxLen) :
    Calls Tryz.prog 43 #[.string s] w fun e w' => e = .returned (.string (M.putText s)) ∧ Below w.heap.size w w' := by
  unfold maxLen at hs
  by_cases h : 20000 < s.size
  · have hE : Hid (M.putText s = ⟨#[]⟩) := M.putText_big h
    go_enter Tryz.func43, Tryz.ntmps43
    go_wp2
    go_ret
    exact ⟨by rw [hE.out]; rfl, Below.refl _ _⟩
  · have hE : Hid (M.putText s = ⟨(M.enc (M.foldZ (s.size : Int))).toArray⟩ ++ s) := M.putText_small h
    have hz := M.enc_size (M.foldZ (s.size : Int))
    go_enter Tryz.func43, Tryz.ntmps43
    go_wp2_with (first | (go_at_call 42; refine (iPutNum_any _ _ (by omega) (by omega)).mono ?_; rintro e w1 ⟨rfl, hb1⟩) | (go_at_call 76; refine (joined_any _ _ _ (by omega) (by omega)).mono ?_; rintro e w2 ⟨rfl, hb2⟩))
    go_ret
    exact ⟨by rw [hE.out]; rfl, hb1.trans (hb2.mono hb1.size)⟩

set_option maxRecDepth 100000 in
set_option maxHeartbeats 800000 in
theorem sPutText_any (s : ByteArray) (w : World) (hs : s.size ≤ maxLen) :
    Calls Tryz.prog 70 #[.string s] w fun e w' => e = .returned (.string (M.putText s)) ∧ Below w.heap.size w w' := by
  unfold maxLen at hs
  by_cases h : 20000 < s.size
  · have hE : Hid (M.putText s = ⟨#[]⟩) := M.putText_big h
    go_enter Tryz.func70, Tryz.ntmps70
    go_wp2
    go_ret
    exact ⟨by rw [hE.out]; rfl, Below.refl _ _⟩
  · have hE : Hid (M.putText s = ⟨(M.enc (M.foldZ (s.size : Int))).toArray⟩ ++ s) := M.putText_small h
    have hz := M.enc_size (M.foldZ (s.size : Int))
    have had := fun W => run_string_add_sum (P := Tryz.prog) (w := W) ⟨(M.enc (M.foldZ (s.size : Int))).toArray⟩ s (by omega)
    go_enter Tryz.func70, Tryz.ntmps70
    go_wp2_with (first | (go_at_call 69; refine (sPutNum_any _ _ (by omega) (by omega)).mono ?_; rintro e w1 ⟨rfl, hb1⟩))
    go_ret
    exact ⟨by rw [hE.out]; rfl, hb1⟩

end Go.Proofs.YtephjmlcbpfnaaaGreatDoor

/-
  A row of bytes that a call has made of a text, and makes longer.
-/
namespace Go.Proofs.YtephjmlcbpfnaaaGreatDoor
open Go.RowKit

/-- A slice in a row of the call's own that may be written holds these bytes. -/
def M.OwnM (w : World) (base : Nat) (v : Value) (L : List UInt8) : Prop :=
  ∃ g cap, v = .slice (some ⟨g, 0, none⟩) L.length cap ∧ base ≤ g ∧ g < w.heap.size ∧ L.length ≤ cap ∧ cap ≤ maxLen ∧ (∀ j (h : j < L.length), w.cell? ⟨g, j, none⟩ = some (M.u8 L[j])) ∧ ∀ j, j < cap → (w.cell? ⟨g, j, none⟩).isSome = true ∧ w.frozen? ⟨g, j, none⟩ = false
theorem M.OwnM.of_block {w w' : World} {base : Nat} {v : Value} {L : List UInt8} (h : M.OwnM w base v L) (hs : w.heap.size ≤ w'.heap.size) (hb : ∀ j, v.ownBlock = some j → w'.heap[j]? = w.heap[j]?) : M.OwnM w' base v L := by
  obtain ⟨g, cap, rfl, hg, hl, h1, h2, h3, h4⟩ := h
  have e := hb g rfl
  exact ⟨g, cap, rfl, hg, by omega, h1, h2, fun j hj => (World.cell?_of_block (a := ⟨g, j, none⟩) e).trans (h3 j hj), fun j hj => ⟨by rw [World.cell?_of_block (a := ⟨g, j, none⟩) e]; exact (h4 j hj).1, (World.frozen?_of_block (a := ⟨g, j, none⟩) e).trans (h4 j hj).2⟩⟩
theorem M.OwnM.lt {w : World} {base : Nat} {v : Value} {L : List UInt8} (h : M.OwnM w base v L) : ∀ j, v.ownBlock = some j → base ≤ j ∧ j < w.heap.size := by
  obtain ⟨g, cap, rfl, hg, hl, _⟩ := h
  intro j hj
  cases hj
  exact ⟨hg, hl⟩
theorem M.OwnM.below {w w' : World} {base : Nat} {v : Value} {L : List UInt8} (h : M.OwnM w base v L) (hb : Below w.heap.size w w') : M.OwnM w' base v L := h.of_block hb.size (fun j hj => hb.block j (h.lt j hj).2)
theorem M.OwnM.len {w : World} {base : Nat} {v : Value} {L : List UInt8} (h : M.OwnM w base v L) : ∃ a cap, v = .slice a L.length cap := by
  obtain ⟨g, cap, rfl, _⟩ := h
  exact ⟨_, _, rfl⟩
theorem M.OwnM.conv {w : World} {base : Nat} {v : Value} {L : List UInt8} (h : M.OwnM w base v L) : (convert 61 9 v).run Tryz.prog w = .ok (.string ⟨L.toArray⟩) w := by
  obtain ⟨g, cap, rfl, hg, hl, h1, h2, h3, h4⟩ := h
  refine run_convert_bytes_back w 61 9 5 ⟨g, 0, none⟩ cap L Tryz.underlying61 Tryz.underlying5 Tryz.underlying9 (fun i hi => ?_)
  rw [Addr.add_lit, Nat.zero_add]
  exact h3 i hi
/-- A text as bytes: a new row. -/
theorem M.own_of_text (w : World) (s : ByteArray) (hs : s.size ≤ maxLen) : ∃ v w', (convert 9 61 (.string s)).run Tryz.prog w = .ok v w' ∧ M.OwnM w' w.heap.size v s.data.toList ∧ Below w.heap.size w w' := by
  have hr := Lib.run_convert_string_bytes (P := Tryz.prog) w 9 61 5 s Tryz.underlying9 Tryz.underlying61 Tryz.underlying5
  have hge := grownCap_ge w s.size 0 5
  have hle := grownCap_le_maxLen w s.size 0 5 hs
  have hl : s.data.toList.length = s.size := by rw [← Lib.size_eq]
  have hsz := Lib.bytesWorld_size w 5 s
  have hcs : (Lib.bytesCells w 5 s).size = grownCap w s.size 0 5 := by
    unfold Lib.bytesCells
    simp only [Array.size_append, Array.size_map, Array.size_replicate]
    have : s.data.size = s.size := rfl
    omega
  refine ⟨_, _, hr, ⟨w.heap.size, grownCap w s.size 0 5, by rw [hl], Nat.le_refl _, by omega, by omega, hle, fun j hj => ?_, fun j hj => ?_⟩, ?_⟩
  · rw [Lib.bytesWorld_cell w 5 s j (by omega)]
    rw [List.getD_eq_getElem?_getD, List.getElem?_eq_getElem hj]
    rfl
  · have hn := Lib.bytesWorld_at_new w 5 s
    refine ⟨?_, ?_⟩
    · simp [World.cell?, hn, hcs, hj]
    · simp only [World.frozen?, hn, hcs]
      simp only [Bool.and_eq_false_iff, decide_eq_false_iff_not]
      left; omega
  · exact ⟨rfl, rfl, rfl, by omega, fun k hk => Lib.bytesWorld_at_old w 5 s k hk⟩
theorem M.grown_setCells (w : World) (g n : Nat) (vs : List Value) : w.grownBy (w.setCells g n vs) (some g) := by
  induction vs generalizing w n with
  | nil => exact ⟨rfl, rfl, rfl, Nat.le_refl _, fun _ _ _ => rfl⟩
  | cons v r ih =>
    have h := ih (w.setCell ⟨g, n, none⟩ v) (n + 1)
    have h0 : w.grownBy (w.setCell ⟨g, n, none⟩ v) (some g) := ⟨rfl, rfl, rfl, by simp [World.setCell], fun k _ hk => by
      simp only [World.setCell, Array.getElem?_modify]
      rw [if_neg (fun e => hk (by rw [e]))]⟩
    exact h0.trans h
theorem M.getElem_app {L X : List UInt8} {j : Nat} (h : j < (L ++ X).length) (hj : ¬ j < L.length) : (L ++ X)[j] = X[j - L.length]'(by rw [List.length_append] at h; omega) := List.getElem_append_right (by omega)
/-- A text's bytes behind those of such a row. -/
theorem M.run_append_m {w : World} {base : Nat} {v : Value} {L : List UInt8} (t u ty : TypeId) {i : TypeInfo} (ht : Tryz.prog.underlying t = some (.slice 5)) (hu : Tryz.prog.underlying u = some .string) (hi : Tryz.prog.info? 5 = some i) (hz : i.zero = some (.int .u8 0)) (hsize : i.size = 1) (hby : i.bytes = 1)
    (h : M.OwnM w base v L) (s : ByteArray) (h63 : L.length + s.size ≤ maxLen) (hbytes : L.length + s.size ≤ 140737488355328) (hbase : base ≤ w.heap.size) :
    ∃ v' w', (Builtin.append_ #[t, u] ty #[v, .string s]).run Tryz.prog w = .ok v' w' ∧ M.OwnM w' base v' (L ++ s.data.toList) ∧ w.grownBy w' v.ownBlock := by
  obtain ⟨g, cap, rfl, hg, hl, h1, h2, h3, h4⟩ := h
  have hsl : s.data.toList.length = s.size := by rw [← Lib.size_eq]
  by_cases hroom : L.length + s.size ≤ cap
  · have hf := Lib.run_firstCells_string (P := Tryz.prog) w 1 s
    have hst := run_storeCells_cells (P := Tryz.prog) g L.length (Lib.strCells s) 0 w (fun j hj => by rw [Lib.strCells_length] at hj; simpa using (h4 (L.length + j) (by omega)).1) (fun j hj => by rw [Lib.strCells_length] at hj; simpa using (h4 (L.length + j) (by omega)).2) (Lib.strCells_oneCell s)
    simp only [Nat.add_zero] at hst
    refine ⟨.slice (some ⟨g, 0, none⟩) (L.length + s.size) cap, w.setCells g L.length (Lib.strCells s), ?_, ⟨g, cap, by rw [List.length_append, hsl], hg, ?_, by rw [List.length_append, hsl]; exact hroom, h2, fun j hj => ?_, fun j hj => ?_⟩, ?_⟩
    · simp [Builtin.append_, run_underlying ht, run_underlying hu, sizeOf, typeInfo, hi, hsize, Builtin.lenOf, hroom, hf, Addr.add_lit, hst]
    · exact Nat.lt_of_lt_of_le hl (M.grown_setCells w g L.length _).size
    · by_cases hjl : j < L.length
      · rw [World.cell?_setCells_out g _ _ _ _ (fun _ _ => Or.inl hjl), List.getElem_append_left hjl]
        exact h3 j hjl
      · rw [M.getElem_app hj hjl]
        rw [List.length_append, hsl] at hj
        have := World.cell?_setCells_in g (Lib.strCells s) L.length w (fun j hj => by rw [Lib.strCells_length] at hj; exact (h4 (L.length + j) (by omega)).1) (j - L.length) (by rw [Lib.strCells_length]; omega)
        rw [show L.length + (j - L.length) = j by omega] at this
        rw [this]
        simp [Lib.strCells, M.u8]
    · refine ⟨?_, by rw [World.frozen?_setCells]; exact (h4 j hj).2⟩
      by_cases hin : L.length ≤ j ∧ j < L.length + s.size
      · have := World.cell?_setCells_in g (Lib.strCells s) L.length w (fun j hj => by rw [Lib.strCells_length] at hj; exact (h4 (L.length + j) (by omega)).1) (j - L.length) (by rw [Lib.strCells_length]; omega)
        rw [show L.length + (j - L.length) = j by omega] at this
        rw [this]; rfl
      · rw [World.cell?_setCells_out g _ _ _ _ (fun _ _ => by rw [Lib.strCells_length]; simp only; omega)]
        exact (h4 j hj).1
    · exact M.grown_setCells _ _ _ _
  · have hr := Lib.run_append_grow_string (P := Tryz.prog) w t u ty 5 i (.int .u8 0) ht hu hi hz ⟨g, 0, none⟩ L.length cap (L.map M.u8) (by rw [hsize, List.length_map, Nat.mul_one]) (fun j x hx => by
      rw [Addr.add_lit, Nat.zero_add]
      rw [List.getElem?_map] at hx
      cases hq : L[j]? with
      | none => rw [hq] at hx; cases hx
      | some c =>
        rw [hq] at hx
        obtain ⟨hj, rfl⟩ := List.getElem?_eq_some_iff.1 hq
        rw [h3 j hj]; exact hx) s (by omega) (by unfold maxLen at h63; omega) (by rw [hby]; exact growslice_fits (by omega) (by omega))
    have hge := grownCap_ge w (L.length + s.size) cap 5
    have hcm := grownCap_le_maxLen w (L.length + s.size) cap 5 h63
    refine ⟨_, _, hr, ⟨w.heap.size, grownCap w (L.length + s.size) cap 5, by rw [List.length_append, hsl], hbase, by simp, by rw [List.length_append, hsl]; exact hge, hcm, fun j hj => ?_, fun j hj => ?_⟩, ⟨rfl, rfl, rfl, by simp, fun k hk _ => heap_alloc_old w.drew _ hk⟩⟩
    · have hn := heap_alloc_new w.drew (.cells ((L.map M.u8).toArray ++ (Lib.strCells s).toArray ++ Builtin.zeroCells (Value.int .u8 0).cells (grownCap w (L.length + s.size) cap 5 - (L.length + s.size))) 5)
      have hn' : (w.drew.alloc (.cells ((L.map M.u8).toArray ++ (Lib.strCells s).toArray ++ Builtin.zeroCells (Value.int .u8 0).cells (grownCap w (L.length + s.size) cap 5 - (L.length + s.size))) 5)).heap[w.heap.size]? = _ := hn
      rw [cell_of_row _ _ j _ _ (0, 0) hn']
      have e2 : (L.map M.u8).toArray ++ (Lib.strCells s).toArray = ((L ++ s.data.toList).map M.u8).toArray := by simp [Lib.strCells, M.u8]
      rw [e2]
      rw [Array.getElem?_append_left (by simpa using hj), List.getElem?_toArray, List.getElem?_map, List.getElem?_eq_getElem hj]
      rfl
    · have hn := heap_alloc_new w.drew (.cells ((L.map M.u8).toArray ++ (Lib.strCells s).toArray ++ Builtin.zeroCells (Value.int .u8 0).cells (grownCap w (L.length + s.size) cap 5 - (L.length + s.size))) 5)
      have hn' : (w.drew.alloc (.cells ((L.map M.u8).toArray ++ (Lib.strCells s).toArray ++ Builtin.zeroCells (Value.int .u8 0).cells (grownCap w (L.length + s.size) cap 5 - (L.length + s.size))) 5)).heap[w.heap.size]? = _ := hn
      refine ⟨?_, by unfold World.frozen?; rw [hn']; simp⟩
      rw [cell_of_row _ _ j _ _ (0, 0) hn']
      have hz1 : (Value.int IntKind.u8 0).cells.size = 1 := rfl
      have hsz : ((L.map M.u8).toArray ++ (Lib.strCells s).toArray ++ Builtin.zeroCells (Value.int .u8 0).cells (grownCap w (L.length + s.size) cap 5 - (L.length + s.size))).size = grownCap w (L.length + s.size) cap 5 := by
        simp only [Array.size_append, List.size_toArray, size_zeroCells, hz1, List.length_map, Lib.strCells_length]
        omega
      rw [Array.getElem?_eq_getElem (by rw [hsz]; exact hj)]
      rfl
theorem M.wpList_append_m {w : World} {base : Nat} {L : List UInt8} {ops : Array Oper} {rest : List Oper} {o : Oper} {a : Act} {Q : Exit → Act → World → Prop} (hgd : o.guard = none) (sl x : Operand) (t u : TypeId)
    (ho : o.op = .call { callee := .builtin .append, args := #[sl, x], argTypes := #[t, u] }) {i : TypeInfo} (ht : Tryz.prog.underlying t = some (.slice 5)) (hu : Tryz.prog.underlying u = some .string) (hi : Tryz.prog.info? 5 = some i) (hz : i.zero = some (.int .u8 0)) (hsize : i.size = 1) (hby : i.bytes = 1)
    (v : Value) (hs : a.eval sl = v) (hown : M.OwnM w base v L) (s : ByteArray) (hx : a.eval x = .string s) (h63 : L.length + s.size ≤ maxLen) (hbytes : L.length + s.size ≤ 140737488355328) (hbase : base ≤ w.heap.size)
    (h : ∀ v' w', M.OwnM w' base v' (L ++ s.data.toList) → w.grownBy w' v.ownBlock → wpList Tryz.prog ops Q rest (a.put o.dst v') w') : wpList Tryz.prog ops Q (o :: rest) a w := by
  refine wpList_plain hgd fun K hK => ?_
  obtain ⟨v', w', hr, h2, h3⟩ := M.run_append_m t u o.type ht hu hi hz hsize hby hown s h63 hbytes hbase
  unfold Oper.wp execOp
  simp only [ho, resolve, invoke, builtin, Sem.run_bind, Sem.run_pure, Result.andThen_ok, List.map_toArray, List.map_cons, List.map_nil, hs, hx, hr]
  exact hK _ _ (h v' w' h2 h3)
end Go.Proofs.YtephjmlcbpfnaaaGreatDoor
