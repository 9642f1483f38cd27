/-
  Dumps as data; right ones.
-/
import Derived.Test.YtpokcbcffijheabPartSW
import Derived.Test.YtpokcbcffijheabNameMath
namespace Go.Proofs.Ytpokcbcffijheab
open Go.ChangeShapes Go.WideShapes Go.Deep Go.RowKit

/-- A dump as data. -/
structure M.DumpD where
  id : Int
  host : ByteArray
  run : Int
  lev : Int
  base : Int
  day : Int
  many : Int
  crc : Int
  ps : List M.PartD
/-- A dump as a value, its parts in a slice. -/
def M.dval (d : M.DumpD) (v : Value) : Value := .agg #[.int .i64 d.id, .string d.host, .int .i64 d.run, .int .i64 d.lev, .int .i64 d.base, .int .i64 d.day, .int .i64 d.many, .int .i64 d.crc, v]
/-- A right part. -/
def M.partR (p : M.PartD) : Bool := decide (0 ≤ p.q ∧ p.q ≤ 7) && decide (0 ≤ p.l ∧ p.l ≤ 1000000) && decide (0 ≤ p.s ∧ p.s ≤ 300) && decide (0 ≤ p.c ∧ p.c ≤ 300)
/-- A right dump. -/
def M.dumpR (d : M.DumpD) : Bool := decide (1 ≤ d.id ∧ d.id ≤ 1000000) && M.nameR d.host && decide (0 ≤ d.run ∧ d.run ≤ 1000000) && decide (0 ≤ d.lev ∧ d.lev ≤ 5) && decide (0 ≤ d.base ∧ d.base ≤ 1000000) && decide (0 ≤ d.day ∧ d.day ≤ 1000000000) && decide (0 ≤ d.many ∧ d.many ≤ 20000) && decide (0 ≤ d.crc ∧ d.crc ≤ 4294967295) && decide (d.ps.length ≤ 8) && d.ps.all M.partR
def M.i64r (n : Int) : Prop := -9223372036854775808 ≤ n ∧ n ≤ 9223372036854775807
/-- What every dump that came in keeps. -/
def M.dok (d : M.DumpD) : Prop := M.i64r d.id ∧ d.host.size ≤ maxLen ∧ M.i64r d.run ∧ M.i64r d.lev ∧ M.i64r d.base ∧ M.i64r d.day ∧ M.i64r d.many ∧ M.i64r d.crc ∧ ∀ p ∈ d.ps, M.pok p
end Go.Proofs.Ytpokcbcffijheab
