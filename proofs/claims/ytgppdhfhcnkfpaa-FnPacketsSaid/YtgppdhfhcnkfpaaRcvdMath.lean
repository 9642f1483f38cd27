/-
  What a receiver has got, one piece behind the other.
-/
import Derived.Test.YtgppdhfhcnkfpaaPart1
import Derived.Lib.SlBuf
namespace Go.Proofs.Ytgppdhfhcnkfpaa
open Go.RowKit

def M.cat (ss : List ByteArray) : List UInt8 := ss.flatMap fun s => s.data.toList
def M.rcvd (ss : List ByteArray) (x : Int) : ByteArray := if M.rcvR ss x = true ∧ x = -1 then ⟨(M.cat ss).toArray⟩ else ⟨#[]⟩
theorem M.cat_snoc {ss : List ByteArray} {k : Nat} {s : ByteArray} (h : ss[k]? = some s) : M.cat (ss.take (k + 1)) = M.cat (ss.take k) ++ s.data.toList := by
  unfold M.cat
  rw [M.take_snocS h, List.flatMap_append]
  simp
theorem M.rcvR_fits {ss : List ByteArray} {x : Int} (h : M.rcvR ss x = true) : ss.length ≤ 300 ∧ ∀ s ∈ ss, s.size ≤ 64 := by
  unfold M.rcvR at h
  rw [Bool.and_eq_true] at h
  exact M.fits_iff.1 h.1
end Go.Proofs.Ytgppdhfhcnkfpaa
