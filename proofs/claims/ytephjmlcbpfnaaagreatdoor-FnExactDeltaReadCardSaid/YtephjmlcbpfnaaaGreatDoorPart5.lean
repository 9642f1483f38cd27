/-
  Small laws over any program: a new buffer of bytes that is filled by copying texts into it, and the text that is made of it.
-/
import Derived.Test.YtephjmlcbpfnaaaGreatDoorPart4
import Derived.Test.YtephjmlcbpfnaaaGreatDoorRows
import Derived.Test.YtephjmlcbpfnaaaGreatDoorPart3
import Derived.Lib.SlBuf
import Derived.Lib.LazyBuf
namespace Go.Proofs.YtephjmlcbpfnaaaGreatDoor.M
open Go.RowKit
variable {P : Program}

/-- What 'make([]byte, n)' leaves is a buffer with nothing in it yet. -/
theorem buf_made {w w1 : World} {e : TypeId} {n : Nat} {xs : List Value} (hown : w1.ownsRow w.heap.size e 1 (.slice (some ⟨w.heap.size, 0, none⟩) n n) n xs) (hg : w.grownBy w1 none) : Lib.Buf w w1 w.heap.size n [] := by
  obtain ⟨hl, h | ⟨g, cap, cur, hv, hb, hh, hn, hc, hz, ht⟩⟩ := hown
  · simp at h
  · simp only [Value.slice.injEq, Option.some.injEq, Addr.mk.injEq] at hv
    obtain ⟨⟨rfl, _, _⟩, _, rfl⟩ := hv
    refine ⟨⟨hg.os, hg.tape, hg.output, hg.size, fun k hk => hg.block k hk (by simp)⟩, ?_, ?_, ?_, Nat.zero_le _⟩
    · intro j hj
      simp [World.cell?, hh]
      omega
    · intro j hj
      simp [World.frozen?, hh]
    · intro j x hx; simp at hx

/-- 'copy(b[bp:], s)', s a text, bp = how much is filled. -/
theorem copy_str (w0 wr : World) (h N : Nat) (acc : List UInt8) (s : ByteArray) (t tS ty e : TypeId) (hu : P.underlying t = some (.slice e)) (hz : ∀ w, (Go.sizeOf e).run P w = .ok 1 w)
    (hb : Lib.Buf w0 wr h N acc) (hfit : acc.length + s.size ≤ N) :
    ∃ wr', (Builtin.copy_ #[t, tS] ty #[Lib.tailV h N acc.length, .string s]).run P wr = .ok (goInt s.size) wr' ∧ Lib.Buf w0 wr' h N (acc ++ s.data.toList) := by
  have hsz : s.data.toList.length = s.size := (Lib.size_eq s).symm
  by_cases hl : N = acc.length
  · have hs0 : s.size = 0 := by omega
    have hr := run_copy_string (P := P) wr t tS ty e h 0 (N - acc.length) (N - acc.length) s hu hz (by omega) (by intro j hj; omega) (by intro j hj; omega)
    refine ⟨_, by unfold Lib.tailV; rw [if_pos hl]; exact hr, ?_⟩
    have he : s.data.toList = [] := List.eq_nil_of_length_eq_zero (by omega)
    rw [he]
    simpa [World.setCells] using hb
  · have hr := run_copy_string (P := P) wr t tS ty e h acc.length (N - acc.length) (N - acc.length) s hu hz (by omega) (fun j hj => hb.there _ (by omega)) (fun j hj => hb.free _ (by omega))
    refine ⟨_, by unfold Lib.tailV; rw [if_neg hl]; exact hr, ?_⟩
    have hin := World.cell?_setCells_in h (s.data.toList.map fun x => Value.int .u8 (x.toNat : Int)) acc.length wr (fun j hj => by rw [List.length_map, hsz] at hj; exact hb.there _ (by omega))
    have hout := World.cell?_setCells_out h (s.data.toList.map fun x => Value.int .u8 (x.toNat : Int)) acc.length wr
    refine ⟨?_, ?_, ?_, ?_, by rw [List.length_append, hsz]; exact hfit⟩
    · exact Lib.below_setCells h (Nat.le_refl _) _ _ hb.below
    · intro j hj
      by_cases h1 : acc.length ≤ j ∧ j < acc.length + s.size
      · obtain ⟨d, rfl⟩ : ∃ d, j = acc.length + d := ⟨j - acc.length, by omega⟩
        rw [hin d (by rw [List.length_map, hsz]; omega)]
        rfl
      · rw [hout ⟨h, j, none⟩ (fun _ _ => by rw [List.length_map, hsz]; show j < _ ∨ _ ≤ j; omega)]
        exact hb.there j hj
    · intro j hj
      rw [World.frozen?_setCells]
      exact hb.free j hj
    · intro j x hx
      by_cases h1 : j < acc.length
      · rw [List.getElem?_append_left h1] at hx
        rw [hout ⟨h, j, none⟩ (fun _ _ => Or.inl h1)]
        exact hb.holds j x hx
      · rw [List.getElem?_append_right (by omega)] at hx
        obtain ⟨d, rfl⟩ : ∃ d, j = acc.length + d := ⟨j - acc.length, by omega⟩
        rw [Nat.add_sub_cancel_left] at hx
        have hd : d < s.data.toList.length := (List.getElem?_eq_some_iff.1 hx).1
        rw [hin d (by rw [List.length_map]; exact hd)]
        have hx' := (List.getElem?_eq_some_iff.1 hx).2
        rw [List.getElem_map, hx']

/-- 'string(b)' of the buffer filled to the brim. -/
theorem conv_buf {w0 wr : World} {h N : Nat} {acc : List UInt8} {src dst e : TypeId} (hs : P.underlying src = some (.slice e)) (he : P.underlying e = some (.int .u8)) (hd : P.underlying dst = some .string)
    (hb : Lib.Buf w0 wr h N acc) (hN : acc.length = N) : (convert src dst (.slice (some ⟨h, 0, none⟩) N N)).run P wr = .ok (.string ⟨acc.toArray⟩) wr := by
  subst hN
  refine run_convert_bytes_back wr src dst e _ _ acc hs he hd fun j hj => ?_
  rw [Addr.add_lit, Nat.zero_add]
  exact hb.holds j _ (List.getElem?_eq_getElem hj)

theorem bytes_join (a b : ByteArray) : (⟨(a.data.toList ++ b.data.toList).toArray⟩ : ByteArray) = a ++ b := by
  apply ByteArray.ext
  simp [ByteArray.data_append]

/-- The four bytes of a number from 0 to 2^32-1, the lowest first. -/
def four (n : Int) : List UInt8 := [UInt8.ofNat (n % 256).toNat, UInt8.ofNat (n / 256 % 256).toNat, UInt8.ofNat (n / 65536 % 256).toNat, UInt8.ofNat (n / 16777216).toNat]
theorem conv_four (w : World) (src dst e : TypeId) (a b c d : Int) (ha : 0 ≤ a ∧ a < 256) (hb : 0 ≤ b ∧ b < 256) (hc : 0 ≤ c ∧ c < 256) (hd : 0 ≤ d ∧ d < 256)
    (hs : P.underlying src = some (.slice e)) (he : P.underlying e = some (.int .u8)) (hdd : P.underlying dst = some .string) :
    (convert src dst (.slice (some ⟨w.heap.size, 0, none⟩) 4 4)).run P (w.alloc (.cells #[.int .u8 a, .int .u8 b, .int .u8 c, .int .u8 d] e))
      = .ok (.string ⟨#[UInt8.ofNat a.toNat, UInt8.ofNat b.toNat, UInt8.ofNat c.toNat, UInt8.ofNat d.toNat]⟩) (w.alloc (.cells #[.int .u8 a, .int .u8 b, .int .u8 c, .int .u8 d] e)) := by
  have e1 : ∀ z : Int, 0 ≤ z ∧ z < 256 → ((UInt8.ofNat z.toNat).toNat : Int) = z := fun z hz => by rw [toNat_ofNat (by omega)]; omega
  refine run_convert_bytes_back (w.alloc _) src dst e _ 4 [UInt8.ofNat a.toNat, UInt8.ofNat b.toNat, UInt8.ofNat c.toNat, UInt8.ofNat d.toNat] hs he hdd fun j hj => ?_
  rw [Addr.add_lit, Nat.zero_add, World.cell?_alloc_mark]
  match j, hj with
  | 0, _ => simp only [List.getElem_cons_zero, e1 a ha]; rfl
  | 1, _ => simp only [List.getElem_cons_succ, List.getElem_cons_zero, e1 b hb]; rfl
  | 2, _ => simp only [List.getElem_cons_succ, List.getElem_cons_zero, e1 c hc]; rfl
  | 3, _ => simp only [List.getElem_cons_succ, List.getElem_cons_zero, e1 d hd]; rfl
theorem four_size (n : Int) : (⟨(four n).toArray⟩ : ByteArray).size = 4 := rfl
end Go.Proofs.YtephjmlcbpfnaaaGreatDoor.M

/-
  Facts on bytes, for buffers of them.
-/
namespace Go.Proofs.YtephjmlcbpfnaaaGreatDoor
open Go.RowKit

theorem Tryz.infoB : (Tryz.prog.info? 5).map (fun i => (i.zero, i.size, i.bytes)) = some (some (.int .u8 0), 1, 1) := by kernel_rfl
theorem Tryz.sizeB (w : World) : (Go.sizeOf 5).run Tryz.prog w = .ok 1 w := by kernel_rfl
end Go.Proofs.YtephjmlcbpfnaaaGreatDoor

/-
  What 'pieceOf' of the program does: a copy of a piece of a text.
-/
namespace Go.Proofs.YtephjmlcbpfnaaaGreatDoor
open Go.RowKit

theorem M.extract_size (s : ByteArray) (f t : Nat) (h : f ≤ t) (h2 : t ≤ s.size) : (s.extract f t).size = t - f := by
  rw [ByteArray.size_extract]; omega
theorem M.data_back (s : ByteArray) : (⟨s.data.toList.toArray⟩ : ByteArray) = s := by
  cases s; rfl

set_option maxRecDepth 100000 in
set_option maxHeartbeats 800000 in
theorem pieceOf_any (s : ByteArray) (f t : Nat) (w : World) (hs : s.size ≤ 1099511627776) (h1 : f ≤ t) (h2 : t ≤ s.size) :
    Calls Tryz.prog 110 #[.string s, .int .i64 f, .int .i64 t] w fun e w' => e = .returned (.string (s.extract f t)) ∧ Below w.heap.size w w' := by
  obtain ⟨i0, hi, hz0, hz1, hz2⟩ := info_parts Tryz.infoB
  have hsz := M.extract_size s f t h1 h2
  have HZ : Hid ((s.extract f t).size = t - f) := hsz
  clear hsz
  go_enter Tryz.func110, Tryz.ntmps110
  go_wp2_with (at_make; refine wpList_make_full _ rfl (.tmp 10) (.tmp 10) 61 rfl w.heap.size 5 i0 (.int .u8 0) 1 Tryz.underlying61 hi hz0 hz1 .i64 .i64 _ _ (t - f) rfl rfl ?c1 ?c2 ?c3 ?c4 ?c5 ?_)
  case c1 => omega
  case c2 => omega
  case c3 => rw [hz2]; omega
  case c4 => unfold maxLen; omega
  case c5 => exact Nat.le_refl _
  intro w1 hown hgrow
  have hbuf := M.buf_made hown hgrow
  obtain ⟨wr1, hr1, hb1⟩ := M.copy_str (P := Tryz.prog) w w1 w.heap.size (t - f) [] (s.extract f t) 61 9 3 5 Tryz.underlying61 Tryz.sizeB hbuf (by rw [HZ.out]; simp)
  rw [show ([] : List UInt8).length = 0 from rfl, Lib.tailV_zero] at hr1
  rw [List.nil_append] at hb1
  have hcv := M.conv_buf Tryz.underlying61 Tryz.underlying5 Tryz.underlying9 hb1 (by rw [← Lib.size_eq, HZ.out])
  rw [M.data_back] at hcv
  have hB : Hid (Below w.heap.size w wr1) := hb1.below
  clear hown hgrow hbuf hb1
  go_wp2
  go_ret
  exact ⟨rfl, hB.out⟩
end Go.Proofs.YtephjmlcbpfnaaaGreatDoor

/-
  What readText of the program does.
-/
namespace Go.Proofs.YtephjmlcbpfnaaaGreatDoor
open Go.RowKit

theorem M.txt3_num {s : ByteArray} {n : Int} (h : (M.num3 s n).2.2 ≠ 0) : M.txt3 s n = (⟨#[]⟩, 0, (M.num3 s n).2.2) := by unfold M.txt3; rw [if_pos h]
theorem M.txt3_len {s : ByteArray} {n : Int} (h : (M.num3 s n).2.2 = 0) (h1 : (M.num3 s n).1 < 0 ∨ 20000 < (M.num3 s n).1) : M.txt3 s n = (⟨#[]⟩, 0, 3) := by unfold M.txt3; rw [if_neg (by simp [h]), if_pos h1]
theorem M.txt3_short {s : ByteArray} {n : Int} (h : (M.num3 s n).2.2 = 0) (h1 : ¬ ((M.num3 s n).1 < 0 ∨ 20000 < (M.num3 s n).1)) (h2 : (s.size : Int) - (M.num3 s n).2.1 < (M.num3 s n).1) : M.txt3 s n = (⟨#[]⟩, 0, 4) := by unfold M.txt3; rw [if_neg (by simp [h]), if_neg h1, if_pos h2]
theorem M.txt3_ok {s : ByteArray} {n : Int} (h : (M.num3 s n).2.2 = 0) (h1 : ¬ ((M.num3 s n).1 < 0 ∨ 20000 < (M.num3 s n).1)) (h2 : ¬ (s.size : Int) - (M.num3 s n).2.1 < (M.num3 s n).1) : M.txt3 s n = (s.extract (M.num3 s n).2.1.toNat ((M.num3 s n).2.1.toNat + (M.num3 s n).1.toNat), (M.num3 s n).2.1 + (M.num3 s n).1, 0) := by unfold M.txt3; rw [if_neg (by simp [h]), if_neg h1, if_neg h2]

set_option maxRecDepth 100000 in
set_option maxHeartbeats 1600000 in
theorem readText_any (s : ByteArray) (n : Int) (w : World) (hs : s.size ≤ maxLen) (h1 : -9223372036854775808 ≤ n) (h2 : n ≤ 9223372036854775807) :
    Calls Tryz.prog 81 #[.string s, .int .i64 n] w fun e w' => e = .returned (.tuple #[.string (M.txt3 s n).1, .int .i64 (M.txt3 s n).2.1, M.errV (M.txt3 s n).2.2]) ∧ Below w.heap.size w w' := by
  have hR := fun W => readNum_any s n W hs h1 h2
  have hok := @M.num3_ok s n
  have t1 := @M.txt3_num s n
  have t2 := @M.txt3_len s n
  have t3 := @M.txt3_short s n
  have t4 := @M.txt3_ok s n
  revert hR hok t1 t2 t3 t4
  generalize (M.num3 s n).1 = A, (M.num3 s n).2.1 = B, (M.num3 s n).2.2 = c
  intro hR hok t1 t2 t3 t4
  unfold maxLen at hs
  by_cases hc : c = 0
  · obtain ⟨b1, b2, b3, b4, b5⟩ := hok hc
    subst hc
    rw [M.errV_ok] at hR
    obtain ⟨B, rfl⟩ := Int.eq_ofNat_of_zero_le b1
    have HR : Hid _ := hR
    clear hR hok t1
    by_cases hA : A < 0 ∨ 20000 < A
    · rw [t2 rfl hA, M.errV_no (by decide)]
      rcases hA with hA | hA
      · have d1 : decide (A < 0) = true := decide_eq_true hA
        clear t2 t3 t4
        go_enter Tryz.func81, Tryz.ntmps81
        go_wp2_with (go_at_call 80; refine (HR.out _).mono ?_; rintro e w' ⟨rfl, rfl⟩)
        go_ret3
        exact ⟨rfl, Below.refl _ _⟩
      · have d1 : decide (A < 0) = false := decide_eq_false (by omega)
        have d2 : decide (20000 < A) = true := decide_eq_true hA
        clear t2 t3 t4
        go_enter Tryz.func81, Tryz.ntmps81
        go_wp2_with (go_at_call 80; refine (HR.out _).mono ?_; rintro e w' ⟨rfl, rfl⟩)
        go_ret3
        exact ⟨rfl, Below.refl _ _⟩
    · obtain ⟨A, rfl⟩ := Int.eq_ofNat_of_zero_le (show 0 ≤ A by omega)
      have d1 : decide ((A : Int) < 0) = false := decide_eq_false (by omega)
      have d2 : decide ((20000 : Int) < (A : Int)) = false := decide_eq_false (by omega)
      by_cases hS : (s.size : Int) - (B : Int) < (A : Int)
      · rw [t3 rfl hA hS, M.errV_no (by decide)]
        clear t2 t3 t4 hA
        go_enter Tryz.func81, Tryz.ntmps81
        go_wp2_with (go_at_call 80; refine (HR.out _).mono ?_; rintro e w' ⟨rfl, rfl⟩)
        go_ret3
        exact ⟨rfl, Below.refl _ _⟩
      · rw [t4 rfl hA hS, M.errV_ok, Int.toNat_natCast, Int.toNat_natCast]
        have hP : ∀ W, Calls Tryz.prog 110 #[.string s, .int .i64 (B : Int), .int .i64 ((B : Int) + (A : Int))] W fun e w' => e = .returned (.string (s.extract B (B + A))) ∧ Below W.heap.size W w' := fun W => by
          have := pieceOf_any s B (B + A) W (by omega) (by omega) (by omega)
          rwa [Int.natCast_add] at this
        have HP : Hid _ := hP
        clear t2 t3 t4 hA hP
        go_enter Tryz.func81, Tryz.ntmps81
        go_wp2_with (first | (go_at_call 80; refine (HR.out _).mono ?_; rintro e w' ⟨rfl, rfl⟩) | (go_at_call 110; refine (HP.out _).mono ?_; rintro e w2 ⟨rfl, hb2⟩))
        go_ret3
        exact ⟨rfl, hb2⟩
  · rw [t1 hc]
    rw [M.errV_no hc] at hR ⊢
    have HR : Hid _ := hR
    clear hR t1 t2 t3 t4 hok
    go_enter Tryz.func81, Tryz.ntmps81
    go_wp2_with (go_at_call 80; refine (HR.out _).mono ?_; rintro e w' ⟨rfl, rfl⟩)
    go_ret3
    exact ⟨rfl, Below.refl _ _⟩

end Go.Proofs.YtephjmlcbpfnaaaGreatDoor

/-
  What GetNum of the specification does.
-/
namespace Go.Proofs.YtephjmlcbpfnaaaGreatDoor
open Go.RowKit


/-- GetNum's answer inside the limits. -/
def M.numOut (r : Nat × Nat × Nat) (n : Nat) : Value := .agg #[.int .i64 (if r.1 = 0 then M.unZ r.2.1 else 0), .int .i64 (if r.1 = 0 then (n : Int) + r.2.2 else 0), .int .i64 r.1]
theorem M.numOut_no {r : Nat × Nat × Nat} {c n : Nat} (h : r = (c, 0, 0)) (hc : ¬ c = 0) : M.numOut r n = .agg #[.int .i64 0, .int .i64 0, .int .i64 c] := by
  subst h; simp only [M.numOut, hc, if_false]
theorem M.numOut_yes {r : Nat × Nat × Nat} {u k n : Nat} (h : r = (0, u, k)) : M.numOut r n = .agg #[.int .i64 (M.unZ u), .int .i64 ((n : Int) + k), .int .i64 0] := by
  subst h; simp only [M.numOut, if_true]; rfl

set_option maxRecDepth 100000 in
set_option maxHeartbeats 1600000 in
theorem sGetNum_in (s : ByteArray) (n : Nat) (w : World) (hs : ¬ 20000 < s.size) (h2 : (n : Int) ≤ 9223372036854775807) :
    Calls Tryz.prog 77 #[.string s, .int .i64 n] w fun e w' => e = .returned (M.numOut (M.rd 0 0 (s.data.toList.drop n)) n) ∧ Below w.heap.size w w' := by
  go_enter Tryz.func77, Tryz.ntmps77
  go_wp2
  go_loop [5, 6] (fun g k => ∃ (i u : Nat), i ≤ 9 ∧ g = .int .u64 u ∧ k = .int .i64 i ∧ Hid (u < 2 ^ (7 * i)) ∧ (i ≠ 0 → n + i ≤ s.size) ∧ Hid (M.rd i u (s.data.toList.drop (n + i)) = M.rd 0 0 (s.data.toList.drop n))) (fun _ k => 10 - (intOf k).toNat)
  case atStart => exact ⟨0, 0, by omega, rfl, rfl, show 0 < _ by decide, fun h => absurd rfl h, rfl⟩
  case round =>
    obtain ⟨i, u, hi, rfl, rfl, hu, hni, HR⟩ := hrel
    by_cases hlt : n + i < s.size
    · have hd := M.drop_cons s (n + i) hlt
      have dlt : decide ((s.size : Int) - (i : Int) ≤ (n : Int)) = false := decide_eq_false (by omega)
      have hc9 : ((s[n + i]'hlt).toNat : Int) ≤ 255 := by have := (s[n + i]'hlt).toNat_lt; omega
      by_cases h9 : i = 9 ∧ 1 < (s[n + i]'hlt).toNat
      · have H2 : Hid (M.numOut (M.rd 0 0 (s.data.toList.drop n)) n = .agg #[.int .i64 0, .int .i64 0, .int .i64 (3 : Nat)]) := by show _ = _; exact M.numOut_no (by rw [← HR.out, hd, M.rd_ten h9.1 h9.2]) (by decide)
        have d9 : ((i : Int) == 9) = true := beq_iff_eq.2 (by omega)
        have d1 : decide ((1 : Int) < ((s[n + i]'hlt).toNat : Int)) = true := decide_eq_true (by omega)
        clear HR hu hd h9
        go_wp2
        exact bodyPost_ret (v := .agg #[.int .i64 0, .int .i64 0, .int .i64 3]) (by simp [results, Tryz.results77, go_sem]) rfl ⟨by rw [H2.out]; rfl, (Below.refl _ _).alloc (Nat.le_refl _) _⟩
      · have H9 : Hid (¬ (i = 9 ∧ 1 < (s[n + i]'hlt).toNat)) := h9
        have HD : Hid (s.data.toList.drop (n + i) = s[n + i] :: s.data.toList.drop (n + i + 1)) := hd
        have hrg : i < 9 ∨ (9 ≤ i ∧ (s[n + i]'hlt).toNat ≤ 1) := by omega
        obtain ⟨V, HV⟩ : ∃ V : Nat, Hid (V = u + ((s[n + i]'hlt).toNat % 128) * 2 ^ (7 * i)) := ⟨_, rfl⟩
        have hw : IntKind.u64.wrap ((u : Int) + IntKind.u64.wrap (((s[n + i]'hlt).toNat : Int) % 128 * 2 ^ (7 * i))) = (V : Int) := by
          rw [M.add_wrap hu.out hi (by omega), HV.out]
        have hV : (V : Int) ≤ 18446744073709551615 := by have := M.sum_lt (u := u) (c := (s[n + i]'hlt).toNat) hu.out hi (by omega); have := HV.out; omega
        clear hd h9
        by_cases hb : (s[n + i]'hlt).toNat < 128
        · have H2 : Hid (M.rd 0 0 (s.data.toList.drop n) = if (s[n + i]'hlt).toNat = 0 ∧ i ≠ 0 then (3, 0, 0) else (0, V, i + 1)) := by show _ = _; rw [← HR.out, HD.out, M.rd_last' H9.out hb, HV.out]
          have hd9 : Hid (((i : Int) == 9) = decide (9 ≤ i)) := by
            show _ = _
            by_cases h : 9 ≤ i
            · rw [decide_eq_true h]; exact beq_iff_eq.2 (by omega)
            · rw [decide_eq_false h]; exact beq_eq_false_iff_ne.2 (by omega)
          clear HR hu HV HD H9
          by_cases hz : (s[n + i]'hlt).toNat = 0 ∧ i ≠ 0
          · have H3 : Hid (M.numOut (M.rd 0 0 (s.data.toList.drop n)) n = .agg #[.int .i64 0, .int .i64 0, .int .i64 (3 : Nat)]) := M.numOut_no (by rw [H2.out, if_pos hz]) (by decide)
            have z0 : (((s[n + i]'hlt).toNat : Int) == 0) = true := beq_iff_eq.2 (by omega)
            have z1 : decide (0 < i) = true := decide_eq_true (by omega)
            have z2 : 0 < i := by omega
            rcases hrg with h9 | ⟨h9, h10⟩
            · have d9 : ((i : Int) == 9) = false := beq_eq_false_iff_ne.2 (by omega)
              clear H2 hd9 hz
              go_wp2
              exact bodyPost_ret (v := .agg #[.int .i64 0, .int .i64 0, .int .i64 3]) (by simp [results, Tryz.results77, go_sem]) rfl ⟨by rw [H3.out]; rfl, (Below.refl _ _).alloc (Nat.le_refl _) _⟩
            · have d9 : ((i : Int) == 9) = true := beq_iff_eq.2 (by omega)
              have d1 : decide ((1 : Int) < ((s[n + i]'hlt).toNat : Int)) = false := decide_eq_false (by omega)
              clear H2 hd9 hz
              go_wp2
              exact bodyPost_ret (v := .agg #[.int .i64 0, .int .i64 0, .int .i64 3]) (by simp [results, Tryz.results77, go_sem]) rfl ⟨by rw [H3.out]; rfl, (Below.refl _ _).alloc (Nat.le_refl _) _⟩
          · have H3 : Hid (M.numOut (M.rd 0 0 (s.data.toList.drop n)) n = .agg #[.int .i64 (M.unZ V), .int .i64 ((n : Int) + ((i + 1 : Nat) : Int)), .int .i64 0]) := M.numOut_yes (by rw [H2.out, if_neg hz])
            by_cases ho : V % 2 = 1
            · rcases (show ((s[n + i]'hlt).toNat ≠ 0 ∧ i < 9) ∨ ((s[n + i]'hlt).toNat ≠ 0 ∧ 9 ≤ i) ∨ ((s[n + i]'hlt).toNat = 0 ∧ i < 9) by omega) with ⟨c0, h9⟩ | ⟨c0, h9⟩ | ⟨c0, h9⟩
              all_goals
                first | (have z0 : (((s[n + i]'hlt).toNat : Int) == 0) = true := beq_iff_eq.2 (by omega)) | (have z0 : (((s[n + i]'hlt).toNat : Int) == 0) = false := beq_eq_false_iff_ne.2 (by omega))
                first | (have z1 : decide (0 < i) = true := decide_eq_true (by omega)) | (have z1 : decide (0 < i) = false := decide_eq_false (by omega)) | skip
                first | (have d9 : ((i : Int) == 9) = true := beq_iff_eq.2 (by omega)) | (have d9 : ((i : Int) == 9) = false := beq_eq_false_iff_ne.2 (by omega))
                first | (have d1 : decide ((1 : Int) < ((s[n + i]'hlt).toNat : Int)) = true := decide_eq_true (by omega)) | (have d1 : decide ((1 : Int) < ((s[n + i]'hlt).toNat : Int)) = false := decide_eq_false (by omega)) | skip
                have o1 : ((V : Int) % 2 == 1) = true := beq_iff_eq.2 (by omega)
                have HU : Hid (M.unZ V = -((V : Int) / 2) - 1) := M.unZ_odd ho
                have HA : Hid ((n : Int) + ((i + 1 : Nat) : Int) = (n : Int) + (i : Int) + 1) := by show _ = _; omega
                rw [HU.out, HA.out] at H3
                clear H2 hd9 hz c0 ho hrg
                go_wp2
                exact bodyPost_ret (v := .agg #[.int .i64 (-((V : Int) / 2) - 1), .int .i64 ((n : Int) + (i : Int) + 1), .int .i64 0]) (by simp [results, Tryz.results77, go_sem]) rfl ⟨by rw [H3.out], (Below.refl _ _).alloc (Nat.le_refl _) _⟩
            · rcases (show ((s[n + i]'hlt).toNat ≠ 0 ∧ i < 9) ∨ ((s[n + i]'hlt).toNat ≠ 0 ∧ 9 ≤ i) ∨ ((s[n + i]'hlt).toNat = 0 ∧ i < 9) by omega) with ⟨c0, h9⟩ | ⟨c0, h9⟩ | ⟨c0, h9⟩
              all_goals
                first | (have z0 : (((s[n + i]'hlt).toNat : Int) == 0) = true := beq_iff_eq.2 (by omega)) | (have z0 : (((s[n + i]'hlt).toNat : Int) == 0) = false := beq_eq_false_iff_ne.2 (by omega))
                first | (have z1 : decide (0 < i) = true := decide_eq_true (by omega)) | (have z1 : decide (0 < i) = false := decide_eq_false (by omega)) | skip
                first | (have d9 : ((i : Int) == 9) = true := beq_iff_eq.2 (by omega)) | (have d9 : ((i : Int) == 9) = false := beq_eq_false_iff_ne.2 (by omega))
                first | (have d1 : decide ((1 : Int) < ((s[n + i]'hlt).toNat : Int)) = true := decide_eq_true (by omega)) | (have d1 : decide ((1 : Int) < ((s[n + i]'hlt).toNat : Int)) = false := decide_eq_false (by omega)) | skip
                have o1 : ((V : Int) % 2 == 1) = false := beq_eq_false_iff_ne.2 (by omega)
                have HU : Hid (M.unZ V = (V : Int) / 2) := M.unZ_even (by omega)
                have HA : Hid ((n : Int) + ((i + 1 : Nat) : Int) = (n : Int) + (i : Int) + 1) := by show _ = _; omega
                rw [HU.out, HA.out] at H3
                clear H2 hd9 hz c0 ho hrg
                go_wp2
                exact bodyPost_ret (v := .agg #[.int .i64 ((V : Int) / 2), .int .i64 ((n : Int) + (i : Int) + 1), .int .i64 0]) (by simp [results, Tryz.results77, go_sem]) rfl ⟨by rw [H3.out], (Below.refl _ _).alloc (Nat.le_refl _) _⟩
        · have h9 : i < 9 := by omega
          have d9 : ((i : Int) == 9) = false := beq_eq_false_iff_ne.2 (by omega)
          have H2 : Hid (M.rd (i + 1) V (s.data.toList.drop (n + (i + 1))) = M.rd 0 0 (s.data.toList.drop n)) := by show _ = _; rw [← HR.out, HD.out, M.rd_more (by omega) hb, HV.out]; rfl
          have HL : Hid (V < 2 ^ (7 * (i + 1))) := by show _ < _; rw [HV.out]; exact M.low_next hu.out (Nat.mod_lt _ (by decide))
          clear hrg HR hu HV HD H9
          go_wp2
          go_round
          case rel => exact ⟨i + 1, V, by omega, rfl, by go_num, HL, fun _ => by omega, H2⟩
          case measure => simp [intOf]; omega
    · have H2 : Hid (M.numOut (M.rd 0 0 (s.data.toList.drop n)) n = .agg #[.int .i64 0, .int .i64 0, .int .i64 (4 : Nat)]) := M.numOut_no (by rw [← HR.out, M.drop_nil s _ hlt, M.rd_nil]) (by decide)
      have dlt : decide ((s.size : Int) - (i : Int) ≤ (n : Int)) = true := decide_eq_true (by omega)
      clear HR hu
      go_wp2
      exact bodyPost_ret (v := .agg #[.int .i64 0, .int .i64 0, .int .i64 4]) (by simp [results, Tryz.results77, go_sem]) rfl ⟨by rw [H2.out]; rfl, (Below.refl _ _).alloc (Nat.le_refl _) _⟩

set_option maxRecDepth 100000 in
set_option maxHeartbeats 800000 in
theorem sGetNum_any (s : ByteArray) (n : Int) (w : World) (hs : s.size ≤ maxLen) (h1 : -9223372036854775808 ≤ n) (h2 : n ≤ 9223372036854775807) :
    Calls Tryz.prog 77 #[.string s, .int .i64 n] w fun e w' => e = .returned (.agg #[.int .i64 (M.num3 s n).1, .int .i64 (M.num3 s n).2.1, .int .i64 (M.num3 s n).2.2]) ∧ Below w.heap.size w w' := by
  have hs' := hs
  unfold maxLen at hs'
  by_cases h : 20000 < s.size
  · rw [M.num3_size h]
    go_enter Tryz.func77, Tryz.ntmps77
    go_wp2
    exact bodyPost_ret (v := .agg #[.int .i64 0, .int .i64 0, .int .i64 2]) (by simp [results, Tryz.results77, go_sem]) rfl ⟨rfl, (Below.refl _ _).alloc (Nat.le_refl _) _⟩
  by_cases h0 : n < 0
  · rw [M.num3_form h h0]
    go_enter Tryz.func77, Tryz.ntmps77
    go_wp2
    exact bodyPost_ret (v := .agg #[.int .i64 0, .int .i64 0, .int .i64 1]) (by simp [results, Tryz.results77, go_sem]) rfl ⟨rfl, (Below.refl _ _).alloc (Nat.le_refl _) _⟩
  obtain ⟨k, rfl⟩ := Int.eq_ofNat_of_zero_le (show 0 ≤ n by omega)
  rw [M.num3_in h]
  exact sGetNum_in s k w h h2

end Go.Proofs.YtephjmlcbpfnaaaGreatDoor

/-
  What GetText of the specification does.
-/
namespace Go.Proofs.YtephjmlcbpfnaaaGreatDoor
open Go.RowKit

theorem M.fin_below {w w1 : World} {o1 o : Obj} {v0 v1 v2 : Value} (hb : Below (w.alloc o1).heap.size (w.alloc o1) w1) :
    Below w.heap.size w ((((w1.setCell ⟨w.heap.size, 0, none⟩ v0).setCell ⟨w.heap.size, 1, none⟩ v1).setCell ⟨w.heap.size, 2, none⟩ v2).alloc o) := by
  have hs := hb.size
  simp at hs
  refine Below.alloc ?_ (by simp [World.setCell]; omega) _
  refine ((Below.setCell ?_ (by exact Nat.le_refl _) _).setCell (by exact Nat.le_refl _) _).setCell (by exact Nat.le_refl _) _
  exact ((Below.refl w.heap.size w).alloc (Nat.le_refl _) _).trans (hb.mono (by simp))

set_option maxRecDepth 100000 in
set_option maxHeartbeats 1600000 in
theorem sGetText_any (s : ByteArray) (n : Int) (w : World) (hs : s.size ≤ maxLen) (h1 : -9223372036854775808 ≤ n) (h2 : n ≤ 9223372036854775807) :
    Calls Tryz.prog 78 #[.string s, .int .i64 n] w fun e w' => e = .returned (.agg #[.string (M.txt3 s n).1, .int .i64 (M.txt3 s n).2.1, .int .i64 (M.txt3 s n).2.2]) ∧ Below w.heap.size w w' := by
  have hR := fun W => sGetNum_any s n W hs h1 h2
  have hok := @M.num3_ok s n
  have t1 := @M.txt3_num s n
  have t2 := @M.txt3_len s n
  have t3 := @M.txt3_short s n
  have t4 := @M.txt3_ok s n
  revert hR hok t1 t2 t3 t4
  generalize (M.num3 s n).1 = A, (M.num3 s n).2.1 = B, (M.num3 s n).2.2 = c
  intro hR hok t1 t2 t3 t4
  unfold maxLen at hs
  by_cases hc : c = 0
  · obtain ⟨b1, b2, b3, b4, b5⟩ := hok hc
    subst hc
    obtain ⟨B, rfl⟩ := Int.eq_ofNat_of_zero_le b1
    have HR : Hid _ := hR
    clear hR hok t1
    by_cases hA : A < 0 ∨ 20000 < A
    · rw [t2 rfl hA]
      rcases hA with hA | hA
      · have d1 : decide (A < 0) = true := decide_eq_true hA
        clear t2 t3 t4
        go_enter Tryz.func78, Tryz.ntmps78
        go_wp2_with (go_at_call 77; refine (HR.out _).mono ?_; rintro e w1 ⟨rfl, hb1⟩; obtain ⟨hc1, hf1⟩ := M.bcell hb1; have hz1 : w.heap.size < w1.heap.size := by have := hb1.size; simp at this; omega)
        exact bodyPost_ret (v := .agg #[.string ⟨#[]⟩, .int .i64 0, .int .i64 3]) (by simp [results, Tryz.results78, go_sem, hc1, hz1]) rfl ⟨rfl, M.fin_below hb1⟩
      · have d1 : decide (A < 0) = false := decide_eq_false (by omega)
        have d2 : decide (20000 < A) = true := decide_eq_true hA
        clear t2 t3 t4
        go_enter Tryz.func78, Tryz.ntmps78
        go_wp2_with (go_at_call 77; refine (HR.out _).mono ?_; rintro e w1 ⟨rfl, hb1⟩; obtain ⟨hc1, hf1⟩ := M.bcell hb1; have hz1 : w.heap.size < w1.heap.size := by have := hb1.size; simp at this; omega)
        exact bodyPost_ret (v := .agg #[.string ⟨#[]⟩, .int .i64 0, .int .i64 3]) (by simp [results, Tryz.results78, go_sem, hc1, hz1]) rfl ⟨rfl, M.fin_below hb1⟩
    · obtain ⟨A, rfl⟩ := Int.eq_ofNat_of_zero_le (show 0 ≤ A by omega)
      have d1 : decide ((A : Int) < 0) = false := decide_eq_false (by omega)
      have d2 : decide ((20000 : Int) < (A : Int)) = false := decide_eq_false (by omega)
      by_cases hS : (s.size : Int) - (A : Int) < (B : Int)
      · rw [t3 rfl hA (by omega)]
        clear t2 t3 t4 hA
        go_enter Tryz.func78, Tryz.ntmps78
        go_wp2_with (go_at_call 77; refine (HR.out _).mono ?_; rintro e w1 ⟨rfl, hb1⟩; obtain ⟨hc1, hf1⟩ := M.bcell hb1; have hz1 : w.heap.size < w1.heap.size := by have := hb1.size; simp at this; omega)
        exact bodyPost_ret (v := .agg #[.string ⟨#[]⟩, .int .i64 0, .int .i64 4]) (by simp [results, Tryz.results78, go_sem, hc1, hz1]) rfl ⟨rfl, M.fin_below hb1⟩
      · rw [t4 rfl hA (by omega), Int.toNat_natCast, Int.toNat_natCast]
        clear t2 t3 t4 hA
        go_enter Tryz.func78, Tryz.ntmps78
        go_wp2_with (go_at_call 77; refine (HR.out _).mono ?_; rintro e w1 ⟨rfl, hb1⟩; obtain ⟨hc1, hf1⟩ := M.bcell hb1; have hz1 : w.heap.size < w1.heap.size := by have := hb1.size; simp at this; omega)
        go_region
        all_goals (try go_wp2)
        exact bodyPost_ret (v := .agg #[.string (s.extract B (B + A)), .int .i64 ((B : Int) + (A : Int)), .int .i64 0]) (by simp [results, Tryz.results78, go_sem, hc1, hz1]) rfl ⟨rfl, (M.fin_below hb1).drew⟩
  · rw [t1 hc]
    have HR : Hid _ := hR
    have d0 : ((c : Int) != 0) = true := by rw [bne_iff_ne]; omega
    clear hR t1 t2 t3 t4 hok
    go_enter Tryz.func78, Tryz.ntmps78
    go_wp2_with (go_at_call 77; refine (HR.out _).mono ?_; rintro e w1 ⟨rfl, hb1⟩; obtain ⟨hc1, hf1⟩ := M.bcell hb1; have hz1 : w.heap.size < w1.heap.size := by have := hb1.size; simp at this; omega)
    exact bodyPost_ret (v := .agg #[.string ⟨#[]⟩, .int .i64 0, .int .i64 c]) (by simp [results, Tryz.results78, go_sem, hc1, hz1]) rfl ⟨rfl, M.fin_below hb1⟩

end Go.Proofs.YtephjmlcbpfnaaaGreatDoor
