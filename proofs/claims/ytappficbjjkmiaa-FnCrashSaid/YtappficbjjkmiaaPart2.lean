/-
  Small laws over any program: a new buffer of bytes that is filled by copying texts into it, and the text that is made of it.
-/
import Derived.Test.YtappficbjjkmiaaLaws
import Derived.Test.YtappficbjjkmiaaRows
import Derived.Test.YtappficbjjkmiaaPart1
import Derived.Lib.SlBuf
import Derived.Lib.LazyBuf
import Derived.WalkKit
import Derived.WalkSpells
import Derived.WalkLawsBesides
import Derived.Lib.Strings
namespace Go.Proofs.Ytappficbjjkmiaa.M
open Go.RowKit
variable {P : Program}

/-- What 'make([]byte, n)' leaves is a buffer with nothing in it yet. -/
theorem buf_made {w w1 : World} {e : TypeId} {n : Nat} {xs : List Value} (hown : w1.ownsRow w.heap.size e 1 (.slice (some ⟨w.heap.size, 0, none⟩) n n) n xs) (hg : w.grownBy w1 none) : Lib.Buf w w1 w.heap.size n [] := by
  obtain ⟨hl, h | ⟨g, cap, cur, hv, hb, hh, hn, hc, hz, ht⟩⟩ := hown
  · simp at h
  · simp only [Value.slice.injEq, Option.some.injEq, Addr.mk.injEq] at hv
    obtain ⟨⟨rfl, _, _⟩, _, rfl⟩ := hv
    refine ⟨⟨hg.os, hg.tape, hg.output, hg.size, fun k hk => hg.block k hk (by simp)⟩, ?_, ?_, ?_, Nat.zero_le _⟩
    · intro j hj
      simp [World.cell?, hh]
      omega
    · intro j hj
      simp [World.frozen?, hh]
    · intro j x hx; simp at hx

/-- 'copy(b[bp:], s)', s a text, bp = how much is filled. -/
theorem copy_str (w0 wr : World) (h N : Nat) (acc : List UInt8) (s : ByteArray) (t tS ty e : TypeId) (hu : P.underlying t = some (.slice e)) (hz : ∀ w, (Go.sizeOf e).run P w = .ok 1 w)
    (hb : Lib.Buf w0 wr h N acc) (hfit : acc.length + s.size ≤ N) :
    ∃ wr', (Builtin.copy_ #[t, tS] ty #[Lib.tailV h N acc.length, .string s]).run P wr = .ok (goInt s.size) wr' ∧ Lib.Buf w0 wr' h N (acc ++ s.data.toList) := by
  have hsz : s.data.toList.length = s.size := (Lib.size_eq s).symm
  by_cases hl : N = acc.length
  · have hs0 : s.size = 0 := by omega
    have hr := run_copy_string (P := P) wr t tS ty e h 0 (N - acc.length) (N - acc.length) s hu hz (by omega) (by intro j hj; omega) (by intro j hj; omega)
    refine ⟨_, by unfold Lib.tailV; rw [if_pos hl]; exact hr, ?_⟩
    have he : s.data.toList = [] := List.eq_nil_of_length_eq_zero (by omega)
    rw [he]
    simpa [World.setCells] using hb
  · have hr := run_copy_string (P := P) wr t tS ty e h acc.length (N - acc.length) (N - acc.length) s hu hz (by omega) (fun j hj => hb.there _ (by omega)) (fun j hj => hb.free _ (by omega))
    refine ⟨_, by unfold Lib.tailV; rw [if_neg hl]; exact hr, ?_⟩
    have hin := World.cell?_setCells_in h (s.data.toList.map fun x => Value.int .u8 (x.toNat : Int)) acc.length wr (fun j hj => by rw [List.length_map, hsz] at hj; exact hb.there _ (by omega))
    have hout := World.cell?_setCells_out h (s.data.toList.map fun x => Value.int .u8 (x.toNat : Int)) acc.length wr
    refine ⟨?_, ?_, ?_, ?_, by rw [List.length_append, hsz]; exact hfit⟩
    · exact Lib.below_setCells h (Nat.le_refl _) _ _ hb.below
    · intro j hj
      by_cases h1 : acc.length ≤ j ∧ j < acc.length + s.size
      · obtain ⟨d, rfl⟩ : ∃ d, j = acc.length + d := ⟨j - acc.length, by omega⟩
        rw [hin d (by rw [List.length_map, hsz]; omega)]
        rfl
      · rw [hout ⟨h, j, none⟩ (fun _ _ => by rw [List.length_map, hsz]; show j < _ ∨ _ ≤ j; omega)]
        exact hb.there j hj
    · intro j hj
      rw [World.frozen?_setCells]
      exact hb.free j hj
    · intro j x hx
      by_cases h1 : j < acc.length
      · rw [List.getElem?_append_left h1] at hx
        rw [hout ⟨h, j, none⟩ (fun _ _ => Or.inl h1)]
        exact hb.holds j x hx
      · rw [List.getElem?_append_right (by omega)] at hx
        obtain ⟨d, rfl⟩ : ∃ d, j = acc.length + d := ⟨j - acc.length, by omega⟩
        rw [Nat.add_sub_cancel_left] at hx
        have hd : d < s.data.toList.length := (List.getElem?_eq_some_iff.1 hx).1
        rw [hin d (by rw [List.length_map]; exact hd)]
        have hx' := (List.getElem?_eq_some_iff.1 hx).2
        rw [List.getElem_map, hx']

/-- 'string(b)' of the buffer filled to the brim. -/
theorem conv_buf {w0 wr : World} {h N : Nat} {acc : List UInt8} {src dst e : TypeId} (hs : P.underlying src = some (.slice e)) (he : P.underlying e = some (.int .u8)) (hd : P.underlying dst = some .string)
    (hb : Lib.Buf w0 wr h N acc) (hN : acc.length = N) : (convert src dst (.slice (some ⟨h, 0, none⟩) N N)).run P wr = .ok (.string ⟨acc.toArray⟩) wr := by
  subst hN
  refine run_convert_bytes_back wr src dst e _ _ acc hs he hd fun j hj => ?_
  rw [Addr.add_lit, Nat.zero_add]
  exact hb.holds j _ (List.getElem?_eq_getElem hj)

theorem bytes_join (a b : ByteArray) : (⟨(a.data.toList ++ b.data.toList).toArray⟩ : ByteArray) = a ++ b := by
  apply ByteArray.ext
  simp [ByteArray.data_append]

/-- The four bytes of a number from 0 to 2^32-1, the lowest first. -/
def four (n : Int) : List UInt8 := [UInt8.ofNat (n % 256).toNat, UInt8.ofNat (n / 256 % 256).toNat, UInt8.ofNat (n / 65536 % 256).toNat, UInt8.ofNat (n / 16777216).toNat]
theorem conv_four (w : World) (src dst e : TypeId) (a b c d : Int) (ha : 0 ≤ a ∧ a < 256) (hb : 0 ≤ b ∧ b < 256) (hc : 0 ≤ c ∧ c < 256) (hd : 0 ≤ d ∧ d < 256)
    (hs : P.underlying src = some (.slice e)) (he : P.underlying e = some (.int .u8)) (hdd : P.underlying dst = some .string) :
    (convert src dst (.slice (some ⟨w.heap.size, 0, none⟩) 4 4)).run P (w.alloc (.cells #[.int .u8 a, .int .u8 b, .int .u8 c, .int .u8 d] e))
      = .ok (.string ⟨#[UInt8.ofNat a.toNat, UInt8.ofNat b.toNat, UInt8.ofNat c.toNat, UInt8.ofNat d.toNat]⟩) (w.alloc (.cells #[.int .u8 a, .int .u8 b, .int .u8 c, .int .u8 d] e)) := by
  have e1 : ∀ z : Int, 0 ≤ z ∧ z < 256 → ((UInt8.ofNat z.toNat).toNat : Int) = z := fun z hz => by rw [toNat_ofNat (by omega)]; omega
  refine run_convert_bytes_back (w.alloc _) src dst e _ 4 [UInt8.ofNat a.toNat, UInt8.ofNat b.toNat, UInt8.ofNat c.toNat, UInt8.ofNat d.toNat] hs he hdd fun j hj => ?_
  rw [Addr.add_lit, Nat.zero_add, World.cell?_alloc_mark]
  match j, hj with
  | 0, _ => simp only [List.getElem_cons_zero, e1 a ha]; rfl
  | 1, _ => simp only [List.getElem_cons_succ, List.getElem_cons_zero, e1 b hb]; rfl
  | 2, _ => simp only [List.getElem_cons_succ, List.getElem_cons_zero, e1 c hc]; rfl
  | 3, _ => simp only [List.getElem_cons_succ, List.getElem_cons_zero, e1 d hd]; rfl
theorem four_size (n : Int) : (⟨(four n).toArray⟩ : ByteArray).size = 4 := rfl
end Go.Proofs.Ytappficbjjkmiaa.M

/-
  Facts on bytes, for buffers of them.
-/
namespace Go.Proofs.Ytappficbjjkmiaa
open Go.RowKit

theorem Try.infoB : (Try.prog.info? 5).map (fun i => (i.zero, i.size, i.bytes)) = some (some (.int .u8 0), 1, 1) := by kernel_rfl
theorem Try.sizeB (w : World) : (Go.sizeOf 5).run Try.prog w = .ok 1 w := by kernel_rfl
end Go.Proofs.Ytappficbjjkmiaa

/-
  Bytes 0 as a text.
-/
namespace Go.Proofs.Ytappficbjjkmiaa
open Go.RowKit

theorem M.zeros_conv {P : Program} {w w1 : World} {e src dst : TypeId} {n : Nat} (hs : P.underlying src = some (.slice e)) (he : P.underlying e = some (.int .u8)) (hd : P.underlying dst = some .string)
    (hown : w1.ownsRow w.heap.size e 1 (.slice (some ⟨w.heap.size, 0, none⟩) n n) n (madeCells #[Value.int .u8 0] n).toList) :
    (convert src dst (.slice (some ⟨w.heap.size, 0, none⟩) n n)).run P w1 = .ok (.string ⟨(List.replicate n (0 : UInt8)).toArray⟩) w1 := by
  refine M.conv_own hs he hd (l := List.replicate n 0) (base := w.heap.size) (n := n) ?_
  have e1 : (madeCells #[Value.int .u8 0] n).toList = M.cells (List.replicate n 0) := by
    simp [madeCells, M.cells]
    rw [List.eq_replicate_iff]
    exact ⟨by simp, by simp [Nat.mod_one]⟩
  rw [← e1]; exact hown
end Go.Proofs.Ytappficbjjkmiaa

/-
  Draws of texts, told as far as the laws of chapter 2 need them.
-/
namespace Go.Proofs.Ytappficbjjkmiaa
open Go.RowKit

theorem M.own_ne {w W : World} {g : Nat} {e : TypeId} {n : Nat} {v : Value} {xs : List Value} (h : W.ownsRow w.heap.size e 1 v n xs) (hg : g < w.heap.size) : v.ownBlock = none ∨ v.ownBlock ≠ some g := by
  cases hv : v.ownBlock with
  | none => exact .inl rfl
  | some k => exact .inr (fun e => by have := (h.lt k hv).1; have := Option.some.inj e; omega)
theorem M.grown_app {w W W1 : World} {g : Nat} {e : TypeId} {n : Nat} {v : Value} {xs : List Value} (h : w.grownBy W (some g)) (ho : W.ownsRow w.heap.size e 1 v n xs) (k : W.grownBy W1 v.ownBlock) : w.grownBy W1 (some g) :=
  ⟨k.os.trans h.os, k.tape.trans h.tape, k.output.trans h.output, Nat.le_trans h.size k.size, fun i hi hne => (k.block i (Nat.lt_of_lt_of_le hi h.size) (fun e => by have := (ho.lt i e.symm).1; omega)).trans (h.block i hi hne)⟩

set_option maxRecDepth 100000 in
set_option maxHeartbeats 800000 in
theorem src_bytes (w : World) (g len cap : Nat) (a : Option Addr) (n : Nat) (h : M.Src g a len cap w) (hn : n ≤ 100000) :
    Calls Try.prog 47 #[.pointer (some ⟨g, 0, none⟩), .int .i64 n] w fun e w' => ∃ l : List UInt8, e = .returned (.string ⟨l.toArray⟩) ∧ l.length = n ∧ M.Src g a len cap w' ∧ w.grownBy w' (some g) := by
  obtain ⟨i0, hi, hz0, hz1, hz2⟩ := info_parts Try.infoB
  have hgw := h.lt
  have HS : Hid (M.Src g a len cap w) := h
  clear h
  go_enter Try.func47, Try.ntmps47
  go_wp2
  go_loopw [5, 6] (fun v i wr => ∃ (acc : List UInt8) (k : Nat), i = .int .i64 k ∧ k ≤ n ∧ Hid (acc.length = k) ∧ wr.ownsRow w.heap.size 5 1 v acc.length (M.cells acc) ∧ Hid (M.Src g a len cap wr) ∧ Hid (w.grownBy wr (some g))) (fun _ i _ => n - (intOf i).toNat)
  case atStart => exact ⟨[], 0, rfl, Nat.zero_le _, rfl, ⟨rfl, .inr ⟨_, 0, #[], rfl, Nat.le_refl _, heap_alloc_new _ _, Nat.le_refl _, by decide, rfl, rfl⟩⟩, HS.out.alloc _, World.grownBy_alloc w _ (some g)⟩
  case round =>
    obtain ⟨acc, k, rfl, hk, HA, hown, HSr, HG⟩ := hrel
    by_cases hlt : k < n
    · have hal : acc.length ≤ 100000 := by have := HA.out; omega
      go_wp2_with fail
      refine (src_n _ g len cap a 256 HSr.out (by omega)).mono ?_
      rintro e w1 ⟨v, rfl, h0, h1, h2, hS, hg⟩
      have h256 := h1 (by omega)
      obtain ⟨v, rfl⟩ := Int.eq_ofNat_of_zero_le h0
      have hown1 := hown.kept hg (M.own_ne hown hgw)
      have HS1 : Hid (M.Src g a len cap w1) := hS
      have HG1 : Hid (w.grownBy w1 (some g)) := M.grown_trans HG.out hg
      have hsz : w.heap.size ≤ w1.heap.size := HG1.out.size
      clear h1 h2 hS hg hown
      go_wp2_with (at_builtin; refine wpList_append_own _ rfl (.tmp 13) (.tmp 17) 22 rfl w.heap.size 5 i0 (.int .u8 0) 1 1 Try.underlying22 hi hz0 hz1 hz2 rfl (by decide) _ _ _ rfl (hown1.alloc _) ⟨w1.heap.size, 0, none⟩ 1 1 [.int .u8 v] rfl rfl (cell_one_new _ _ _) ?c2 ?c3 ?c4 ?c5 ?_)
      case c2 => intro x hx; simp at hx; subst hx; rfl
      case c3 => unfold maxLen; omega
      case c4 => omega
      case c5 => simp; omega
      intro v' w2 hown' hgrow _
      rw [M.app_cells (u := v) (by omega) rfl] at hown'
      have HS2 : Hid (M.Src g a len cap w2) := (HS1.out.alloc _).kept hgrow (fun k hk => by have := ((hown1.alloc (.cells #[.int .u8 v] 5)).lt k hk).1; omega)
      have HG2 : Hid (w.grownBy w2 (some g)) := M.grown_app (M.grown_trans HG1.out (World.grownBy_alloc w1 (.cells #[.int .u8 v] 5) (some g))) (hown1.alloc _) hgrow
      clear hgrow hown1
      go_wp2
      go_roundw
      case rel => exact ⟨acc ++ [UInt8.ofNat v], k + 1, by go_num, by omega, by show _ = _; rw [List.length_append, HA.out]; rfl, by rw [List.length_append]; exact hown', HS2, HG2⟩
      case measure => simp [intOf]; omega
    · have hcv := M.conv_own Try.underlying22 Try.underlying5 Try.underlying9 hown
      clear hown
      go_wp2
      go_ret
      exact ⟨acc, rfl, by have := HA.out; omega, HSr.out, HG.out⟩
end Go.Proofs.Ytappficbjjkmiaa

/-
  What markText of the laws does: a text of its own for each number from 1 on.
-/
namespace Go.Proofs.Ytappficbjjkmiaa
open Go.RowKit

def M.digitsF : Nat → Nat → List UInt8
  | 0, _ => []
  | f + 1, n => if n = 0 then [] else M.digitsF f (n / 10) ++ [UInt8.ofNat (48 + n % 10)]
theorem M.digitsF_enough : ∀ (f f' n : Nat), n ≤ f → n ≤ f' → M.digitsF f n = M.digitsF f' n
  | 0, 0, _, _, _ => rfl
  | 0, f' + 1, n, h, _ => by rw [M.digitsF, M.digitsF, if_pos (by omega)]
  | f + 1, 0, n, _, h => by rw [M.digitsF, M.digitsF, if_pos (by omega)]
  | f + 1, f' + 1, n, h, h' => by
    rw [M.digitsF, M.digitsF]
    by_cases e : n = 0
    · rw [if_pos e, if_pos e]
    · rw [if_neg e, if_neg e, M.digitsF_enough f f' (n / 10) (by omega) (by omega)]
def M.digits (n : Nat) : List UInt8 := M.digitsF n n
theorem M.digits_pos {n : Nat} (h : 0 < n) : M.digits n = M.digits (n / 10) ++ [UInt8.ofNat (48 + n % 10)] := by
  obtain ⟨m, rfl⟩ : ∃ m, n = m + 1 := ⟨n - 1, by omega⟩
  unfold M.digits
  rw [M.digitsF, if_neg (by omega), M.digitsF_enough m ((m + 1) / 10) ((m + 1) / 10) (by omega) (Nat.le_refl _)]
theorem M.digits_zero : M.digits 0 = [] := rfl
def M.mt (n : Nat) : ByteArray := ⟨(109 :: M.digits n).toArray⟩

theorem M.conv_one (w : World) (z : Int) (h0 : 0 ≤ z) (h9 : z < 256) : (convert 22 9 (.slice (some ⟨w.heap.size, 0, none⟩) 1 1)).run Try.prog (w.alloc (.cells #[.int .u8 z] 5))
      = .ok (.string ⟨#[UInt8.ofNat z.toNat]⟩) (w.alloc (.cells #[.int .u8 z] 5)) := by
  refine run_convert_bytes_back (w.alloc _) _ _ 5 _ 1 [UInt8.ofNat z.toNat] Try.underlying22 Try.underlying5 Try.underlying9 fun j hj => ?_
  have hj0 : j = 0 := by simp at hj; omega
  subst hj0
  rw [Addr.add_lit, Nat.zero_add, World.cell?_alloc_mark]
  have e : ((UInt8.ofNat z.toNat).toNat : Int) = z := by
    rw [UInt8.toNat_ofNat']
    rw [Nat.mod_eq_of_lt (show z.toNat < 2 ^ 8 by omega)]; omega
  simp only [List.getElem_cons_zero, e]
  rfl
theorem M.cat_mk (c : UInt8) (o : ByteArray) : ((⟨#[c]⟩ : ByteArray) ++ o).data.toList = c :: o.data.toList := by
  rw [ByteArray.data_append]; simp

set_option maxRecDepth 100000 in
set_option maxHeartbeats 1600000 in
theorem markText_any (n : Nat) (w : World) (h1 : 1 ≤ n) (h2 : n ≤ 100000000) :
    Calls Try.prog 85 #[.int .i64 n] w fun e w' => e = .returned (.string (M.mt n)) ∧ Below w.heap.size w w' := by
  go_enter Try.func85, Try.ntmps85
  go_wp2
  go_loopw [0, 3] (fun x o wr => ∃ (m : Nat) (out : ByteArray), x = .int .i64 m ∧ o = .string out ∧ m ≤ n ∧ out.size + m ≤ n ∧ Hid (M.digits m ++ out.data.toList = M.digits n) ∧ Hid (Below w.heap.size w wr)) (fun x _ _ => (intOf x).toNat)
  case atStart => exact ⟨n, ⟨#[]⟩, rfl, rfl, Nat.le_refl _, Nat.le_of_eq (Nat.zero_add _), List.append_nil _, Below.refl _ _⟩
  case round =>
    obtain ⟨m, out, rfl, rfl, hm, hs, HD, HBr⟩ := hrel
    by_cases hz : 0 < m
    · have hcv := M.conv_one wr (48 + (m : Int) % 10) (by omega) (by omega)
      obtain ⟨c, hc⟩ : ∃ c, c = UInt8.ofNat (48 + (m : Int) % 10).toNat := ⟨_, rfl⟩
      rw [← hc] at hcv
      have HD2 : Hid (M.digits (m / 10) ++ ((⟨#[c]⟩ : ByteArray) ++ out).data.toList = M.digits n) := by
        show _ = _
        rw [M.cat_mk, hc, show (48 + (m : Int) % 10).toNat = 48 + m % 10 by omega]
        have := HD.out
        rw [M.digits_pos hz] at this
        simpa using this
      have hsz : ((⟨#[c]⟩ : ByteArray) ++ out).size = out.size + 1 := by
        rw [ByteArray.size_append]; exact Nat.add_comm _ _
      have HSZ : Hid (((⟨#[c]⟩ : ByteArray) ++ out).size = out.size + 1) := hsz
      have HB2 : Hid (Below w.heap.size w (wr.alloc (.cells #[.int .u8 (48 + (m : Int) % 10)] 5))) := HBr.out.alloc HBr.out.size _
      clear hsz hc
      go_wp2
      go_roundw
      case rel => exact ⟨m / 10, _, by go_num, rfl, by omega, by rw [HSZ.out]; omega, HD2, HB2⟩
      case measure => simp [intOf]; omega
    · have HE : Hid ((⟨#[109]⟩ : ByteArray) ++ out = M.mt n) := by
        show _ = _
        have := HD.out
        rw [show m = 0 by omega, M.digits_zero] at this
        apply ByteArray.ext
        apply Array.toList_inj.1
        rw [M.cat_mk]
        unfold M.mt
        simpa using this
      go_wp2
      go_ret
      exact ⟨by rw [← HE.out]; rfl, HBr.out⟩
end Go.Proofs.Ytappficbjjkmiaa
