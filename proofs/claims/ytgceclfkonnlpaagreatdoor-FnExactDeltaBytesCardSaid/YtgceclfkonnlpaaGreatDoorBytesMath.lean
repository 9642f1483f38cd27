/-
  A delta's bytes, with no word of the program.
-/
import Derived.Test.YtgceclfkonnlpaaGreatDoorPart5
import Derived.Test.YtgceclfkonnlpaaGreatDoorPackMath
import Derived.Test.YtgceclfkonnlpaaGreatDoorMath
namespace Go.Proofs.YtgceclfkonnlpaaGreatDoor
open Go.RowKit

/-- How many drops, and each of them. -/
def M.dropsL (n : Nat) (ss : List ByteArray) : List UInt8 := M.enc (M.foldZ (n : Int)) ++ ss.flatMap fun s => (M.putText s).data.toList
theorem M.dropsL_snoc {n k : Nat} {ss : List ByteArray} {s : ByteArray} (h : ss[k]? = some s) : M.dropsL n (ss.take (k + 1)) = M.dropsL n (ss.take k) ++ (M.putText s).data.toList := by
  unfold M.dropsL
  rw [M.take_snocS h, List.flatMap_append, ← List.append_assoc]
  simp
theorem M.putText_le (s : ByteArray) (h : s.size ≤ 150) : (M.putText s).size ≤ 161 := by
  have := M.enc_size (M.foldZ (s.size : Int))
  unfold M.putText
  split
  · exact Nat.zero_le _
  · rw [ByteArray.size_append]; omega
/-- The bytes of a right delta; none: it has none. -/
def M.bytesB (ss : List ByteArray) (fs : List M.FileD) : ByteArray :=
  if (M.packB fs).size = 0 ∨ 20000 < (M.dropsL ss.length ss).length + (M.packB fs).size then ⟨#[]⟩ else ⟨(M.dropsL ss.length ss ++ (M.packB fs).data.toList).toArray⟩
theorem M.packB_le (fs : List M.FileD) : (M.packB fs).size ≤ 20000 := by
  unfold M.packB
  split
  · next h => exact h.2.2
  · exact Nat.zero_le _
end Go.Proofs.YtgceclfkonnlpaaGreatDoor
