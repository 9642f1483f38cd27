/-
  Bytes of a text, and what digits to the base of eight tell at most.
-/
import Derived.Test.YtbmbcfnlpbbapahRows
import Derived.Test.YtbmbcfnlpbbapahOctMath
import Derived.WalkKit
import Derived.WalkSpells
import Derived.WalkLawsBesides
namespace Go.Proofs.Ytbmbcfnlpbbapah
open Go.RowKit

theorem M.memAt {q : ByteArray} {k : Nat} (h : k < q.size) : q[k] ∈ q.data.toList := by
  rw [Array.mem_toList_iff]
  exact Array.getElem_mem (xs := q.data) h
theorem M.atMem {q : ByteArray} {c : UInt8} (h : c ∈ q.data.toList) : ∃ k, ∃ h : k < q.size, q[k] = c := by
  rw [Array.mem_toList_iff] at h
  obtain ⟨k, hk, e⟩ := Array.mem_iff_getElem.1 h
  exact ⟨k, hk, e⟩
theorem M.takeAt (s : ByteArray) (k : Nat) (h : k < s.size) : s.data.toList.take (k + 1) = s.data.toList.take k ++ [s[k]] := by
  have hl : k < s.data.toList.length := by rw [← Lib.size_eq]; exact h
  rw [List.take_succ_eq_append_getElem hl]; rfl
theorem M.octV_le (s : ByteArray) (k : Nat) (hk : k ≤ 20) (h : ∀ j, ∀ hj : j < s.size, j < k → M.isOct s[j] = true) : M.octV (s.data.toList.take k) < 8 ^ 20 := by
  refine Nat.lt_of_lt_of_le (M.octV_lt _ (fun c hc => ?_)) (Nat.pow_le_pow_right (by decide) (show (s.data.toList.take k).length ≤ 20 by rw [List.length_take]; omega))
  obtain ⟨j, hj, rfl⟩ := List.getElem_of_mem hc
  rw [List.length_take] at hj
  have hjs : j < s.size := by rw [Lib.size_eq]; omega
  rw [List.getElem_take]
  exact h j hjs (by omega)

end Go.Proofs.Ytbmbcfnlpbbapah
