/-
  A text made a row of bytes, with one byte turned, and made a text again.
-/
import Derived.Test.YtgppdhfhcnkfpaaSrcWalks
import Derived.Test.YtgppdhfhcnkfpaaCrcTurn
import Derived.Laws.IdiomStrings
import Derived.Lib.SlBuf
namespace Go.Proofs.Ytgppdhfhcnkfpaa
open Go.RowKit

theorem M.IsRow.below {W W' : World} {a : Option Addr} {len cap : Nat} (h : M.IsRow W a len cap) (hb : Below W.heap.size W W') : M.IsRow W' a len cap :=
  h.kept (row := none) ⟨hb.os, hb.tape, hb.output, hb.size, fun k hk _ => hb.block k hk⟩ (fun _ x _ => by simp)

/-- '[]byte(s)': a new row of the text's bytes. -/
theorem M.bytes_new {P : Program} (w : World) (src dst e : TypeId) (s : ByteArray) (hs : P.underlying src = some .string) (hd : P.underlying dst = some (.slice e)) (he : P.underlying e = some (.int .u8)) :
    ∃ (w1 : World) (cap : Nat), (convert src dst (.string s)).run P w = .ok (.slice (some ⟨w.heap.size, 0, none⟩) s.size cap) w1 ∧ Below w.heap.size w w1 ∧
      (∀ i, i < s.size → w1.cell? ⟨w.heap.size, i, none⟩ = some (.int .u8 (s.data.toList.getD i 0).toNat)) ∧ (∀ i, i < s.size → w1.frozen? ⟨w.heap.size, i, none⟩ = false) := by
  refine ⟨_, _, run_bytes_of_string w src dst e s hs hd he, ⟨rfl, rfl, rfl, by simp, fun k hk => Below.heap_alloc w.drew _ k hk⟩, ?_, ?_⟩
  · intro i hi
    have h1 := World.cell?_alloc_mark w.drew (bytesRow s (grownCap w s.size 0 e)) e ((bytesRow s (grownCap w s.size 0 e)).size, (bytesRow s (grownCap w s.size 0 e)).size + 1) i
    refine h1.trans ?_
    have hi' : i < s.data.size := hi
    unfold bytesRow
    rw [Array.getElem?_append_left (by simpa using hi')]
    simp [List.getD_eq_getElem?_getD]
    exact ⟨s.data[i], Array.getElem?_eq_getElem hi', by rw [Array.getElem?_eq_getElem hi']; rfl⟩
  · intro i hi
    have h1 := World.frozen?_alloc_mark w.drew (bytesRow s (grownCap w s.size 0 e)) e (bytesRow s (grownCap w s.size 0 e)).size ((bytesRow s (grownCap w s.size 0 e)).size + 1) i
    refine h1.trans ?_
    have hi' : i < s.data.size := hi
    have : i < (bytesRow s (grownCap w s.size 0 e)).size := by unfold bytesRow; simp; omega
    simp; omega

theorem M.u8nat {n : Nat} (h : n < 256) : (UInt8.ofNat n).toNat = n := by rw [UInt8.toNat_ofNat', Nat.mod_eq_of_lt (show n < 2 ^ 8 by omega)]
theorem M.xor_byte (c : UInt8) (v : Int) (h0 : 0 ≤ v) (h1 : v < 255) : ∃ d : UInt8, bits .xor .u8 (c.toNat : Int) (1 + v) = (d.toNat : Int) ∧ c ≠ d := by
  obtain ⟨m, hm⟩ := Int.eq_ofNat_of_zero_le (show 0 ≤ 1 + v by omega)
  have hc := c.toNat_lt
  have hx : c.toNat ^^^ m < 256 := Nat.xor_lt_two_pow (n := 8) hc (by omega)
  refine ⟨UInt8.ofNat (c.toNat ^^^ m), ?_, fun e => ?_⟩
  · rw [hm, u8_xor_nat c.toNat m hc (by omega), M.u8nat hx]
  · have := congrArg UInt8.toNat e
    rw [M.u8nat hx] at this
    have h0 : c.toNat ^^^ 0 = c.toNat ^^^ m := by rw [Nat.xor_zero]; exact this
    have := M.xor_left h0
    omega
theorem M.set_parts (l : List UInt8) (k : Nat) (d : UInt8) (hk : k < l.length) : l = l.take k ++ l.getD k 0 :: l.drop (k + 1) ∧ l.set k d = l.take k ++ d :: l.drop (k + 1) := by
  refine ⟨?_, ?_⟩
  · rw [List.getD_eq_getElem?_getD, List.getElem?_eq_getElem hk, Option.getD_some, ← List.drop_eq_getElem_cons hk, List.take_append_drop]
  · rw [List.set_eq_take_append_cons_drop, if_pos hk]
/-- 'string(b)' behind the store. -/
theorem M.conv_set {P : Program} {w4 w7 : World} {src dst e : TypeId} {H k cap : Nat} {S : ByteArray} {d : UInt8} (hs : P.underlying src = some (.slice e)) (he : P.underlying e = some (.int .u8)) (hd : P.underlying dst = some .string)
    (hk : k < S.size) (hcell : ∀ i, i < S.size → w4.cell? ⟨H, i, none⟩ = some (.int .u8 (S.data.toList.getD i 0).toNat)) (h7 : ∀ i, w7.cell? ⟨H, i, none⟩ = (w4.setCell ⟨H, k, none⟩ (.int .u8 d.toNat)).cell? ⟨H, i, none⟩) :
    (convert src dst (.slice (some ⟨H, 0, none⟩) S.size cap)).run P w7 = .ok (.string ⟨(S.data.toList.set k d).toArray⟩) w7 := by
  have hl : (S.data.toList.set k d).length = S.size := by rw [List.length_set, ← Lib.size_eq]
  have := run_convert_bytes_back (P := P) w7 src dst e ⟨H, 0, none⟩ cap (S.data.toList.set k d) hs he hd (fun j hj => by
    rw [Addr.add_lit, Nat.zero_add, h7]
    have hj' : j < S.size := by rw [← hl]; exact hj
    by_cases e : j = k
    · subst e
      rw [World.cell?_setCell_same _ _ _ (hcell j hj'), List.getElem_set_self]
    · rw [World.cell?_setCell_other _ _ _ _ (by intro h; simp only [Addr.mk.injEq] at h; omega), hcell j hj', List.getElem_set_ne (by omega), List.getD_eq_getElem?_getD, List.getElem?_eq_getElem (by rw [← Lib.size_eq]; exact hj')]
      rfl)
  rwa [hl] at this
end Go.Proofs.Ytgppdhfhcnkfpaa
