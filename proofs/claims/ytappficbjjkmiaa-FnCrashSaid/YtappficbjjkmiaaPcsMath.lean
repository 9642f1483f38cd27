/-
  The pieces of a text, as mathematics.
-/
import Derived.Test.YtappficbjjkmiaaPart6
import Derived.Lib.SlBuf
namespace Go.Proofs.Ytappficbjjkmiaa
open Go.RowKit

/-- The bytes of a text from one place up to another. -/
def M.cut (s : ByteArray) (i j : Nat) : ByteArray := ⟨((s.data.toList.drop i).take (j - i)).toArray⟩
/-- The first pieces of a text, each of 64 bytes. -/
def M.pcs (s : ByteArray) (k : Nat) : List ByteArray := (List.range k).map fun i => M.cut s (64 * i) (64 * i + 64)
/-- All pieces. -/
def M.pieces (s : ByteArray) : List ByteArray := M.pcs s ((s.size - 1) / 64) ++ [M.cut s (64 * ((s.size - 1) / 64)) s.size]
/-- What PiecesOf tells. -/
def M.piecesOf (s : ByteArray) : List ByteArray := if 19200 < s.size then [] else M.pieces s
theorem M.pcs_len (s : ByteArray) (k : Nat) : (M.pcs s k).length = k := by simp [M.pcs]
theorem M.pcs_snoc (s : ByteArray) (k : Nat) : M.pcs s (k + 1) = M.pcs s k ++ [M.cut s (64 * k) (64 * k + 64)] := by simp [M.pcs, List.range_succ]
theorem M.pieces_end {s : ByteArray} {k : Nat} (h0 : k = 0 ∨ 64 * k < s.size) (h1 : s.size - 64 * k ≤ 64) : M.pcs s k ++ [M.cut s (64 * k) s.size] = M.pieces s := by
  have : (s.size - 1) / 64 = k := by omega
  unfold M.pieces
  rw [this]
theorem M.lenL (s : ByteArray) : s.data.toList.length = s.size := by rw [← Lib.size_eq]
theorem M.cut_size (s : ByteArray) {i j : Nat} (hi : i ≤ j) (hj : j ≤ s.size) : (M.cut s i j).size = j - i := by
  rw [Lib.size_eq]
  show ((s.data.toList.drop i).take (j - i)).length = _
  rw [List.length_take, List.length_drop, M.lenL]
  omega
theorem M.cut_all (s : ByteArray) : M.cut s 0 s.size = s := by
  unfold M.cut
  rw [List.drop_zero, Nat.sub_zero, ← M.lenL, List.take_length]
theorem M.extract_eq (t : ByteArray) (i j : Nat) : t.extract i j = ⟨((t.data.toList.drop i).take (j - i)).toArray⟩ := by
  apply ByteArray.ext
  rw [ByteArray.data_extract]
  apply Array.toList_inj.1
  simp
theorem M.cut_head (s : ByteArray) {i : Nat} (h : i + 64 ≤ s.size) : (M.cut s i s.size).extract 0 64 = M.cut s i (i + 64) := by
  rw [M.extract_eq]
  unfold M.cut
  simp only [List.drop_zero, Nat.sub_zero, Nat.add_sub_cancel_left]
  rw [List.take_take, Nat.min_eq_left (by omega)]
theorem M.cut_tail (s : ByteArray) {i : Nat} (h : i + 64 ≤ s.size) : (M.cut s i s.size).extract 64 (M.cut s i s.size).size = M.cut s (i + 64) s.size := by
  rw [M.extract_eq, M.cut_size s (by omega) (Nat.le_refl _)]
  unfold M.cut
  simp only
  rw [List.drop_take, List.drop_drop, List.take_take, show min (s.size - i - 64) (s.size - i - 64) = s.size - (i + 64) by omega]
def M.vlen : Value → Nat
  | .slice _ l _ => l
  | .string s => s.size
  | _ => 0
theorem M.pieces_len {s : ByteArray} (h : s.size ≤ 19200) : 1 ≤ (M.pieces s).length ∧ (M.pieces s).length ≤ 300 := by
  unfold M.pieces
  rw [List.length_append, M.pcs_len]
  simp
  omega
theorem M.piecesOf_len (s : ByteArray) : (M.piecesOf s).length ≤ 300 := by
  unfold M.piecesOf
  split
  · simp
  · exact (M.pieces_len (by omega)).2
end Go.Proofs.Ytappficbjjkmiaa
