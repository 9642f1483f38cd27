/-
  A cursor in memory; what headerHere of the program tells, with no word of how.
-/
import Derived.Test.YtephjmlcbpfnaaaGreatDoorPart17
import Derived.Test.YtephjmlcbpfnaaaGreatDoorPart6
namespace Go.Proofs.YtephjmlcbpfnaaaGreatDoor
open Go.RowKit

/-- A cursor lies in a block: its text, and its place. -/
structure M.Cur (w : World) (g : Nat) (t : ByteArray) (k : Nat) : Prop where
  c0 : w.cell? ⟨g, 0, none⟩ = some (.string t)
  c1 : w.cell? ⟨g, 1, none⟩ = some (.int .i64 k)
  f1 : w.frozen? ⟨g, 1, none⟩ = false

theorem M.Cur.below {w w' : World} {g : Nat} {t : ByteArray} {k : Nat} (H : M.Cur w g t k) (hb : Below w.heap.size w w') : M.Cur w' g t k := by
  have hlt : g < w.heap.size := World.block_lt_of_cell? w _ H.c0
  exact ⟨by rw [hb.cell (p := ⟨g, 0, none⟩) hlt]; exact H.c0, by rw [hb.cell (p := ⟨g, 1, none⟩) hlt]; exact H.c1, by rw [hb.frozen (p := ⟨g, 1, none⟩) hlt]; exact H.f1⟩
/-- A fault as an error: none, or one of the program's own type. -/
def M.errI (c : Int) : Value := if c = 0 then .nilIface else .iface 105 (.agg #[.int .i64 c])
/-- What is wrong with the header at a place; 0: nothing. -/
def M.hdrC (t : List UInt8) (a : Nat) : Int :=
  if t.length < a + 512 then 4
  else if M.cutL t a 512 = List.replicate 512 0 then 0
  else if M.sumOkL (M.cutL t a 512) = false then 5
  else if M.sizeL (M.cutL t a 512) < 0 then 3
  else if t.length < a + 512 + M.blk (M.sizeL (M.cutL t a 512)).toNat * 512 then 4
  else 0
/-- The header that is told beside it. -/
def M.hdrL (t : List UInt8) (a : Nat) : List UInt8 := if t.length < a + 512 then List.replicate 512 0 else M.cutL t a 512
theorem M.hdrL_len (t : List UInt8) (a : Nat) : (M.hdrL t a).length = 512 := by
  unfold M.hdrL
  split
  · exact List.length_replicate
  · unfold M.cutL; rw [List.length_take, List.length_drop]; omega
/-- Two results, the first of them a whole row in memory. -/
theorem M.results_row2 {P : Program} {fn : Func} {p q : Tmp} {ty : TypeId} (h : fn.results = #[.cell p ty, .tmp q]) (tmps : Array Value) (w : World) (g : Nat) (t : TypeId) (cs : Array Value) (fr : Nat × Nat) (d : TypeDesc) (v : Value)
    (hp : tmps.getD p undef = .pointer (some ⟨g, 0, none⟩)) (hq : tmps.getD q undef = v) (hg : w.heap[g]? = some (.cells cs t fr))
    (hu : P.underlying ty = some d) (hd : (match d with | .struct _ | .array _ _ => true | _ => false) = true) (hi : (P.info? ty).map (·.size) = some cs.size) :
    (results fn tmps).run P w = .ok (.tuple #[.agg cs, v]) w := by
  have hp' : tmps[p]?.getD undef = .pointer (some ⟨g, 0, none⟩) := by simpa using hp
  subst hq
  simp [results, h, hp', asAddr, run_loadVar_row w g t ty cs fr d hg hu hd hi]
end Go.Proofs.YtephjmlcbpfnaaaGreatDoor
