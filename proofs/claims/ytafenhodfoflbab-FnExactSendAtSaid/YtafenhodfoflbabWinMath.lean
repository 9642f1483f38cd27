/-
  The packets that a sender sends at once, in a row and in a map by their numbers.
-/
import Derived.Test.YtafenhodfoflbabPofMath
import Derived.WalkKit
import Derived.Maps.Own
import Derived.Maps.Views
namespace Go.Proofs.Ytafenhodfoflbab.M
open Go.Maps

/-- The packets from a number on, so many. -/
def winL (ss : List ByteArray) (x m : Nat) : List PktD := (List.range m).map fun i => pof ss ((x + i : Nat) : Int)
theorem winL_len (ss : List ByteArray) (x m : Nat) : (winL ss x m).length = m := by simp [winL]
theorem winL_snoc (ss : List ByteArray) (x m : Nat) : winL ss x (m + 1) = winL ss x m ++ [pof ss ((x + m : Nat) : Int)] := by simp [winL, List.range_succ]
/-- A packet's value as an element of a map. -/
def pktElem : Value → Option (DataW PktD × List MemPlace)
  | .agg ⟨[.int .i64 q, .bool l, .string s, .int .i64 c]⟩ => some (.held ⟨q, l, s, c⟩, [])
  | _ => none
theorem pktElem_mk (p : PktD) : pktElem (.agg #[.int .i64 p.q, .bool p.l, .string p.s, .int .i64 p.c]) = some (.held p, []) := rfl
theorem pktElem_inv {v : Value} {p : PktD} {ps : List MemPlace} (h : pktElem v = some (.held p, ps)) : v = .agg #[.int .i64 p.q, .bool p.l, .string p.s, .int .i64 p.c] := by
  unfold pktElem at h
  split at h
  · cases h; rfl
  · cases h
/-- The map of the first so many of them. -/
def wdat (ss : List ByteArray) (x k : Nat) : DataW PktD := (List.range k).foldl (fun D i => D.put (.int .i64 ((x + i : Nat) : Int)) (.held (pof ss ((x + i : Nat) : Int)))) (.map [])
theorem wdat_succ (ss : List ByteArray) (x k : Nat) : wdat ss x (k + 1) = (wdat ss x k).put (.int .i64 ((x + k : Nat) : Int)) (.held (pof ss ((x + k : Nat) : Int))) := by
  simp [wdat, List.range_succ, List.foldl_append]
theorem wdat_isMap (ss : List ByteArray) (x : Nat) : ∀ k, IsMap (wdat ss x k)
  | 0 => isMap_empty
  | k + 1 => by rw [wdat_succ]; exact (wdat_isMap ss x k).put _ _
theorem wdat_in (ss : List ByteArray) (x : Nat) : ∀ (k i : Nat), i < k → has (wdat ss x k) (.int .i64 ((x + i : Nat) : Int)) = true ∧ ∀ z, (wdat ss x k).atKey (.int .i64 ((x + i : Nat) : Int)) z = .held (pof ss ((x + i : Nat) : Int))
  | 0, _, h => absurd h (Nat.not_lt_zero _)
  | k + 1, i, h => by
    rw [wdat_succ]
    by_cases e : i = k
    · subst e
      exact ⟨has_put_same (wdat_isMap ss x i) (by simp [WideAt.IsKeyLit]) _, fun z => atKey_put_same (wdat_isMap ss x i) (by simp [WideAt.IsKeyLit]) _ _⟩
    · have hne : (Lit.int .i64 ((x + i : Nat) : Int)) ≠ .int .i64 ((x + k : Nat) : Int) := by
        intro h'
        simp only [Lit.int.injEq, true_and] at h'
        omega
      obtain ⟨h1, h2⟩ := wdat_in ss x k i (by omega)
      exact ⟨by rw [has_put_other hne]; exact h1, fun z => by rw [atKey_put_other hne]; exact h2 z⟩
theorem wdat_out (ss : List ByteArray) (x : Nat) : ∀ (k : Nat) (y : Nat), x + k ≤ y → has (wdat ss x k) (.int .i64 (y : Int)) = false
  | 0, _, _ => rfl
  | k + 1, y, h => by
    have hne : (Lit.int .i64 (y : Int)) ≠ .int .i64 ((x + k : Nat) : Int) := by
      intro h'
      simp only [Lit.int.injEq, true_and] at h'
      omega
    rw [wdat_succ, has_put_other hne]
    exact wdat_out ss x k y (by omega)
theorem pof_q {ss : List ByteArray} {k : Nat} (hf : fits ss = true) (h : k < ss.length) : (pof ss (k : Int)).q = (k : Int) := by
  rw [pof_at hf (List.getElem?_eq_getElem h)]
  rfl
end Go.Proofs.Ytafenhodfoflbab.M
