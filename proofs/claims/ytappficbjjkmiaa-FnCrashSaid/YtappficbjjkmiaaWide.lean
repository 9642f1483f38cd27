/-
  A region that draws its order and holds calls that lay new memory alone: one walk in the order of the text serves every order. The class of worlds: those in which all that was there is as it was.
-/
import Derived.WalkKit
import Derived.BigQuiet
import Derived.Below
namespace Go.Proofs.Ytappficbjjkmiaa
open Go.RowKit

/-- A world in which all blocks of w are as they were. -/
structure M.Wd (w : World) where
  val : World
  bel : Below w.heap.size w val

theorem M.wp_region_wd {P : Program} {id : Nat} {Q : Exit → Act → World → Prop} {a : Act} {w : World} {l : List Oper} (hm : P.follows .mixedOrders = true) (hB : Region.lexB .any l.toArray = true)
    (h : Nonempty (M.Wd w) → wpQuiet P l.toArray (fun w' => ∃ x : M.Wd w, w' = x.val) (fun a' => ∀ w', (∃ x : M.Wd w, w' = x.val) → Q .normal a' w') l a) : (Code.region id l.toArray true).wp P Q a w :=
  wp_region_quiet (C := fun w' => ∃ x : M.Wd w, w' = x.val) hm hB ⟨⟨_, (Below.refl w.heap.size w).drew⟩, rfl⟩ (by simpa using h ⟨⟨w, Below.refl _ _⟩⟩)
theorem M.Wd.cell {w : World} {p : Addr} {v : Value} (h : w.cell? p = some v) (x : M.Wd w) : x.val.cell? p = some v := by
  rw [x.bel.cell (World.block_lt_of_cell? w _ h)]; exact h
theorem M.Wd.call {P : Program} {f : FuncId} {args : Array Value} {w : World} {v : Value} (x : M.Wd w) (h : Calls P f args x.val fun e w' => e = .returned v ∧ Below x.val.heap.size x.val w') :
    Calls P f args x.val fun e w'' => e = .returned v ∧ ∃ y : M.Wd w, w'' = y.val :=
  h.mono fun _ w' ⟨he, hb⟩ => ⟨he, ⟨w', x.bel.trans (hb.mono x.bel.size)⟩, rfl⟩
end Go.Proofs.Ytappficbjjkmiaa
