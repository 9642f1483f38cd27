/-
  Worlds in which nothing changes but what is new, and the blocks of an interval.
-/
import Derived.Test.YtappficbjjkmiaaPart6
namespace Go.Proofs.Ytappficbjjkmiaa
open Go.RowKit

/-- Nothing changes but what is new, and blocks from one number on and below another. -/
structure M.Mid (lo hi : Nat) (w w' : World) : Prop where
  os : w'.os = w.os
  tape : w'.tape = w.tape
  output : w'.output = w.output
  size : w.heap.size ≤ w'.heap.size
  block : ∀ k, k < w.heap.size → (k < lo ∨ hi ≤ k) → w'.heap[k]? = w.heap[k]?
theorem M.Mid.refl (lo hi : Nat) (w : World) : M.Mid lo hi w w := ⟨rfl, rfl, rfl, Nat.le_refl _, fun _ _ _ => rfl⟩
theorem M.Mid.trans {lo hi : Nat} {a b c : World} (h : M.Mid lo hi a b) (k : M.Mid lo hi b c) : M.Mid lo hi a c :=
  ⟨k.os.trans h.os, k.tape.trans h.tape, k.output.trans h.output, Nat.le_trans h.size k.size, fun i hi ho => (k.block i (Nat.lt_of_lt_of_le hi h.size) ho).trans (h.block i hi ho)⟩
theorem M.Mid.of_below {lo hi : Nat} {a b : World} (h : Below a.heap.size a b) : M.Mid lo hi a b := ⟨h.os, h.tape, h.output, h.size, fun k hk _ => h.block k hk⟩
theorem M.Mid.of_grown {lo hi : Nat} {a b : World} {row : Option Nat} (h : a.grownBy b row) (hr : ∀ g, row = some g → lo ≤ g ∧ g < hi) : M.Mid lo hi a b :=
  ⟨h.os, h.tape, h.output, h.size, fun k hk ho => h.block k hk (fun e => by have := hr k e.symm; omega)⟩
theorem M.Mid.setCell {lo hi : Nat} {a b : World} (h : M.Mid lo hi a b) {g : Nat} (h1 : lo ≤ g) (h2 : g < hi) (j : Nat) (v : Value) : M.Mid lo hi a (b.setCell ⟨g, j, none⟩ v) :=
  ⟨h.os, h.tape, h.output, by have := h.size; simp [World.setCell]; omega, fun k hk ho => by rw [M.setfr (by omega)]; exact h.block k hk ho⟩
theorem M.Mid.below {lo hi : Nat} {a b : World} (h : M.Mid lo hi a b) (ha : lo ≤ a.heap.size) : Below lo a b := ⟨h.os, h.tape, h.output, h.size, fun k hk => h.block k (by omega) (.inl hk)⟩
theorem M.Mid.widen {lo hi lo' hi' : Nat} {a b : World} (h : M.Mid lo hi a b) (h1 : lo' ≤ lo) (h2 : hi ≤ hi') : M.Mid lo' hi' a b := ⟨h.os, h.tape, h.output, h.size, fun k hk ho => h.block k hk (by omega)⟩
theorem M.midB {lo hi : Nat} {w a b : World} (h : Below w.heap.size w a) (hm : M.Mid lo hi a b) (hl : w.heap.size ≤ lo) (ha : lo ≤ a.heap.size) : Below w.heap.size w b :=
  h.trans ((hm.below ha).mono hl)
end Go.Proofs.Ytappficbjjkmiaa
