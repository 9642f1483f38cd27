/-
  Packets as mathematics: the sum of one, and which are right.
-/
import Derived.Test.YtafenhodfoflbabLinkMath
import Derived.Test.YtafenhodfoflbabMath
import Derived.Test.YtafenhodfoflbabCrcMath
namespace Go.Proofs.Ytafenhodfoflbab
open Go.RowKit

/-- The bytes of a number. -/
def M.num (n : Int) : ByteArray := ⟨(M.enc (M.foldZ n)).toArray⟩
def M.lastN (l : Bool) : Int := if l = true then 1 else 0
/-- The sum of a packet. -/
def M.pcrc (q : Int) (l : Bool) (s : ByteArray) : Int := M.crcMore 0 (M.num q ++ M.num (M.lastN l) ++ s)
def M.pktR (q : Int) (l : Bool) (s : ByteArray) (c : Int) : Bool := decide (0 ≤ q ∧ q ≤ 299) && decide (s.size ≤ 64) && (c == M.pcrc q l s)
theorem M.num_size (n : Int) : (M.num n).size ≤ 11 := M.enc_size _
theorem M.lastN_or (l : Bool) : M.lastN l = 0 ∨ M.lastN l = 1 := by cases l; exact .inl rfl; exact .inr rfl
end Go.Proofs.Ytafenhodfoflbab
