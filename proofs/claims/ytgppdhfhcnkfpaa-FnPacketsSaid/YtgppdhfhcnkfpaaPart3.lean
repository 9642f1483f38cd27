/-
  Packets as mathematics: the sum of one, and which are right.
-/
import Derived.Test.YtgppdhfhcnkfpaaPart1
import Derived.Test.YtgppdhfhcnkfpaaPart2
namespace Go.Proofs.Ytgppdhfhcnkfpaa
open Go.RowKit

/-- The bytes of a number. -/
def M.num (n : Int) : ByteArray := ⟨(M.enc (M.foldZ n)).toArray⟩
def M.lastN (l : Bool) : Int := if l = true then 1 else 0
/-- The sum of a packet. -/
def M.pcrc (q : Int) (l : Bool) (s : ByteArray) : Int := M.crcMore 0 (M.num q ++ M.num (M.lastN l) ++ s)
def M.pktR (q : Int) (l : Bool) (s : ByteArray) (c : Int) : Bool := decide (0 ≤ q ∧ q ≤ 299) && decide (s.size ≤ 64) && (c == M.pcrc q l s)
theorem M.num_size (n : Int) : (M.num n).size ≤ 11 := M.enc_size _
theorem M.lastN_or (l : Bool) : M.lastN l = 0 ∨ M.lastN l = 1 := by cases l; exact .inl rfl; exact .inr rfl
end Go.Proofs.Ytgppdhfhcnkfpaa

/-
  The packet of pieces and a number, as mathematics.
-/
namespace Go.Proofs.Ytgppdhfhcnkfpaa
open Go.RowKit

structure M.PktD where
  q : Int
  l : Bool
  s : ByteArray
  c : Int
def M.pval (p : M.PktD) : Value := .agg #[.int .i64 p.q, .bool p.l, .string p.s, .int .i64 p.c]
def M.pzero : M.PktD := ⟨0, false, ⟨#[]⟩, 0⟩
/-- The packet of a piece that is there. -/
def M.pmk (ss : List ByteArray) (k : Nat) (s : ByteArray) : M.PktD := ⟨(k : Int), ((k : Int) == (ss.length : Int) - 1), s, M.pcrc (k : Int) ((k : Int) == (ss.length : Int) - 1) s⟩
def M.pof (ss : List ByteArray) (k : Int) : M.PktD := if M.fits ss = true ∧ 0 ≤ k then (match ss[k.toNat]? with | some s => M.pmk ss k.toNat s | none => M.pzero) else M.pzero
theorem M.pof_unfit {ss : List ByteArray} {k : Int} (h : M.fits ss = false) : M.pof ss k = M.pzero := by
  unfold M.pof; rw [if_neg (fun h' => by rw [h] at h'; cases h'.1)]
theorem M.pof_neg {ss : List ByteArray} {k : Int} (h : k < 0) : M.pof ss k = M.pzero := by
  unfold M.pof; rw [if_neg (fun h' => by omega)]
theorem M.pof_far {ss : List ByteArray} {k : Int} (h : (ss.length : Int) ≤ k) : M.pof ss k = M.pzero := by
  unfold M.pof
  split
  · rw [List.getElem?_eq_none (by omega)]
  · rfl
theorem M.pof_at {ss : List ByteArray} {k : Nat} {s : ByteArray} (hf : M.fits ss = true) (h : ss[k]? = some s) : M.pof ss (k : Int) = M.pmk ss k s := by
  unfold M.pof
  rw [if_pos ⟨hf, by omega⟩, Int.toNat_natCast, h]
end Go.Proofs.Ytgppdhfhcnkfpaa
