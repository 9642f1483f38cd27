/-
  Small laws over any program: a new buffer of bytes that is filled by copying texts into it, and the text that is made of it.
-/
import Derived.Test.YtappficbjjkmiaaLaws
import Derived.Lib.SlBuf
import Derived.Lib.LazyBuf
namespace Go.Proofs.Ytappficbjjkmiaa.M
open Go.RowKit
variable {P : Program}

/-- What 'make([]byte, n)' leaves is a buffer with nothing in it yet. -/
theorem buf_made {w w1 : World} {e : TypeId} {n : Nat} {xs : List Value} (hown : w1.ownsRow w.heap.size e 1 (.slice (some ⟨w.heap.size, 0, none⟩) n n) n xs) (hg : w.grownBy w1 none) : Lib.Buf w w1 w.heap.size n [] := by
  obtain ⟨hl, h | ⟨g, cap, cur, hv, hb, hh, hn, hc, hz, ht⟩⟩ := hown
  · simp at h
  · simp only [Value.slice.injEq, Option.some.injEq, Addr.mk.injEq] at hv
    obtain ⟨⟨rfl, _, _⟩, _, rfl⟩ := hv
    refine ⟨⟨hg.os, hg.tape, hg.output, hg.size, fun k hk => hg.block k hk (by simp)⟩, ?_, ?_, ?_, Nat.zero_le _⟩
    · intro j hj
      simp [World.cell?, hh]
      omega
    · intro j hj
      simp [World.frozen?, hh]
    · intro j x hx; simp at hx

/-- 'copy(b[bp:], s)', s a text, bp = how much is filled. -/
theorem copy_str (w0 wr : World) (h N : Nat) (acc : List UInt8) (s : ByteArray) (t tS ty e : TypeId) (hu : P.underlying t = some (.slice e)) (hz : ∀ w, (Go.sizeOf e).run P w = .ok 1 w)
    (hb : Lib.Buf w0 wr h N acc) (hfit : acc.length + s.size ≤ N) :
    ∃ wr', (Builtin.copy_ #[t, tS] ty #[Lib.tailV h N acc.length, .string s]).run P wr = .ok (goInt s.size) wr' ∧ Lib.Buf w0 wr' h N (acc ++ s.data.toList) := by
  have hsz : s.data.toList.length = s.size := (Lib.size_eq s).symm
  by_cases hl : N = acc.length
  · have hs0 : s.size = 0 := by omega
    have hr := run_copy_string (P := P) wr t tS ty e h 0 (N - acc.length) (N - acc.length) s hu hz (by omega) (by intro j hj; omega) (by intro j hj; omega)
    refine ⟨_, by unfold Lib.tailV; rw [if_pos hl]; exact hr, ?_⟩
    have he : s.data.toList = [] := List.eq_nil_of_length_eq_zero (by omega)
    rw [he]
    simpa [World.setCells] using hb
  · have hr := run_copy_string (P := P) wr t tS ty e h acc.length (N - acc.length) (N - acc.length) s hu hz (by omega) (fun j hj => hb.there _ (by omega)) (fun j hj => hb.free _ (by omega))
    refine ⟨_, by unfold Lib.tailV; rw [if_neg hl]; exact hr, ?_⟩
    have hin := World.cell?_setCells_in h (s.data.toList.map fun x => Value.int .u8 (x.toNat : Int)) acc.length wr (fun j hj => by rw [List.length_map, hsz] at hj; exact hb.there _ (by omega))
    have hout := World.cell?_setCells_out h (s.data.toList.map fun x => Value.int .u8 (x.toNat : Int)) acc.length wr
    refine ⟨?_, ?_, ?_, ?_, by rw [List.length_append, hsz]; exact hfit⟩
    · exact Lib.below_setCells h (Nat.le_refl _) _ _ hb.below
    · intro j hj
      by_cases h1 : acc.length ≤ j ∧ j < acc.length + s.size
      · obtain ⟨d, rfl⟩ : ∃ d, j = acc.length + d := ⟨j - acc.length, by omega⟩
        rw [hin d (by rw [List.length_map, hsz]; omega)]
        rfl
      · rw [hout ⟨h, j, none⟩ (fun _ _ => by rw [List.length_map, hsz]; show j < _ ∨ _ ≤ j; omega)]
        exact hb.there j hj
    · intro j hj
      rw [World.frozen?_setCells]
      exact hb.free j hj
    · intro j x hx
      by_cases h1 : j < acc.length
      · rw [List.getElem?_append_left h1] at hx
        rw [hout ⟨h, j, none⟩ (fun _ _ => Or.inl h1)]
        exact hb.holds j x hx
      · rw [List.getElem?_append_right (by omega)] at hx
        obtain ⟨d, rfl⟩ : ∃ d, j = acc.length + d := ⟨j - acc.length, by omega⟩
        rw [Nat.add_sub_cancel_left] at hx
        have hd : d < s.data.toList.length := (List.getElem?_eq_some_iff.1 hx).1
        rw [hin d (by rw [List.length_map]; exact hd)]
        have hx' := (List.getElem?_eq_some_iff.1 hx).2
        rw [List.getElem_map, hx']

/-- 'string(b)' of the buffer filled to the brim. -/
theorem conv_buf {w0 wr : World} {h N : Nat} {acc : List UInt8} {src dst e : TypeId} (hs : P.underlying src = some (.slice e)) (he : P.underlying e = some (.int .u8)) (hd : P.underlying dst = some .string)
    (hb : Lib.Buf w0 wr h N acc) (hN : acc.length = N) : (convert src dst (.slice (some ⟨h, 0, none⟩) N N)).run P wr = .ok (.string ⟨acc.toArray⟩) wr := by
  subst hN
  refine run_convert_bytes_back wr src dst e _ _ acc hs he hd fun j hj => ?_
  rw [Addr.add_lit, Nat.zero_add]
  exact hb.holds j _ (List.getElem?_eq_getElem hj)

theorem bytes_join (a b : ByteArray) : (⟨(a.data.toList ++ b.data.toList).toArray⟩ : ByteArray) = a ++ b := by
  apply ByteArray.ext
  simp [ByteArray.data_append]

/-- The four bytes of a number from 0 to 2^32-1, the lowest first. -/
def four (n : Int) : List UInt8 := [UInt8.ofNat (n % 256).toNat, UInt8.ofNat (n / 256 % 256).toNat, UInt8.ofNat (n / 65536 % 256).toNat, UInt8.ofNat (n / 16777216).toNat]
theorem conv_four (w : World) (src dst e : TypeId) (a b c d : Int) (ha : 0 ≤ a ∧ a < 256) (hb : 0 ≤ b ∧ b < 256) (hc : 0 ≤ c ∧ c < 256) (hd : 0 ≤ d ∧ d < 256)
    (hs : P.underlying src = some (.slice e)) (he : P.underlying e = some (.int .u8)) (hdd : P.underlying dst = some .string) :
    (convert src dst (.slice (some ⟨w.heap.size, 0, none⟩) 4 4)).run P (w.alloc (.cells #[.int .u8 a, .int .u8 b, .int .u8 c, .int .u8 d] e))
      = .ok (.string ⟨#[UInt8.ofNat a.toNat, UInt8.ofNat b.toNat, UInt8.ofNat c.toNat, UInt8.ofNat d.toNat]⟩) (w.alloc (.cells #[.int .u8 a, .int .u8 b, .int .u8 c, .int .u8 d] e)) := by
  have e1 : ∀ z : Int, 0 ≤ z ∧ z < 256 → ((UInt8.ofNat z.toNat).toNat : Int) = z := fun z hz => by rw [toNat_ofNat (by omega)]; omega
  refine run_convert_bytes_back (w.alloc _) src dst e _ 4 [UInt8.ofNat a.toNat, UInt8.ofNat b.toNat, UInt8.ofNat c.toNat, UInt8.ofNat d.toNat] hs he hdd fun j hj => ?_
  rw [Addr.add_lit, Nat.zero_add, World.cell?_alloc_mark]
  match j, hj with
  | 0, _ => simp only [List.getElem_cons_zero, e1 a ha]; rfl
  | 1, _ => simp only [List.getElem_cons_succ, List.getElem_cons_zero, e1 b hb]; rfl
  | 2, _ => simp only [List.getElem_cons_succ, List.getElem_cons_zero, e1 c hc]; rfl
  | 3, _ => simp only [List.getElem_cons_succ, List.getElem_cons_zero, e1 d hd]; rfl
theorem four_size (n : Int) : (⟨(four n).toArray⟩ : ByteArray).size = 4 := rfl
end Go.Proofs.Ytappficbjjkmiaa.M
