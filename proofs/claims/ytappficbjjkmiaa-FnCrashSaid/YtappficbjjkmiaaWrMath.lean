/-
  What is written onto tapes, with no word of the program.
-/
import Derived.Test.YtappficbjjkmiaaPart6
import Derived.Test.YtappficbjjkmiaaPart9
namespace Go.Proofs.Ytappficbjjkmiaa
open Go.RowKit

/-- What a write has come to: the tapes, the parts, the blocks that are left. -/
structure M.WrS where
  ts : List M.TapeD
  ps : List M.PartD
  bs : List ByteArray
/-- How many blocks a tape takes. -/
def M.wrM (t : M.TapeD) (bs : List ByteArray) : Nat := min (t.room - (t.ss.length : Int)).toNat bs.length
/-- One tape of those that are used. -/
def M.wr1 (x : M.WrS) (n : Int) : M.WrS :=
  match x.ts[n.toNat]? with
  | none => x
  | some t => if M.wrM t x.bs = 0 then x else
    ⟨x.ts.set n.toNat ⟨t.lab, t.ss ++ x.bs.take (M.wrM t x.bs), t.syn, t.room⟩, x.ps ++ [⟨n, t.lab, t.ss.length, M.wrM t x.bs⟩], x.bs.drop (M.wrM t x.bs)⟩
/-- The tapes that are used, one behind the other. -/
def M.wr (x : M.WrS) (ns : List Int) : M.WrS := ns.foldl M.wr1 x
theorem M.wr_snoc (x : M.WrS) {ns : List Int} {k : Nat} {n : Int} (h : ns[k]? = some n) : M.wr x (ns.take (k + 1)) = M.wr1 (M.wr x (ns.take k)) n := by
  unfold M.wr
  rw [List.take_add_one, h]
  simp
theorem M.wr1_hit {x : M.WrS} {n : Int} {t : M.TapeD} (h : x.ts[n.toNat]? = some t) (h0 : 0 < M.wrM t x.bs) : M.wr1 x n = ⟨x.ts.set n.toNat ⟨t.lab, t.ss ++ x.bs.take (M.wrM t x.bs), t.syn, t.room⟩, x.ps ++ [⟨n, t.lab, t.ss.length, M.wrM t x.bs⟩], x.bs.drop (M.wrM t x.bs)⟩ := by
  unfold M.wr1
  rw [h]
  show (if M.wrM t x.bs = 0 then x else _) = _
  rw [if_neg (by omega)]
theorem M.wr1_not {x : M.WrS} {n : Int} {t : M.TapeD} (h : x.ts[n.toNat]? = some t) (h0 : M.wrM t x.bs = 0) : M.wr1 x n = x := by
  unfold M.wr1
  rw [h]
  show (if M.wrM t x.bs = 0 then x else _) = _
  rw [if_pos h0]
/-- Nothing is left: nothing more is written. -/
theorem M.wr1_done {x : M.WrS} (h : x.bs = []) (n : Int) : M.wr1 x n = x := by
  unfold M.wr1
  cases hx : x.ts[n.toNat]? with
  | none => rfl
  | some t =>
    show (if M.wrM t x.bs = 0 then x else _) = _
    rw [if_pos (by unfold M.wrM; rw [h]; exact Nat.min_zero _)]
theorem M.wr_done {x : M.WrS} (h : x.bs = []) : ∀ ns, M.wr x ns = x
  | [] => rfl
  | n :: ns => by
    show M.wr (M.wr1 x n) ns = x
    rw [M.wr1_done h]
    exact M.wr_done h ns
/-- What was written up to where nothing is left is all. -/
theorem M.wr_stop (x : M.WrS) (ns : List Int) (k : Nat) (h : (M.wr x (ns.take k)).bs = []) : M.wr x ns = M.wr x (ns.take k) := by
  have e : M.wr x ns = M.wr (M.wr x (ns.take k)) (ns.drop k) := by
    unfold M.wr
    rw [← List.foldl_append, List.take_append_drop]
  rw [e, M.wr_done h]
theorem M.wr1_len (x : M.WrS) (n : Int) : (M.wr1 x n).ts.length = x.ts.length := by
  unfold M.wr1
  cases hx : x.ts[n.toNat]? with
  | none => rfl
  | some t =>
    show (if M.wrM t x.bs = 0 then x else _ : M.WrS).ts.length = _
    by_cases h0 : M.wrM t x.bs = 0
    · rw [if_pos h0]
    · rw [if_neg h0]; simp
theorem M.wr_len : ∀ (ns : List Int) (x : M.WrS), (M.wr x ns).ts.length = x.ts.length
  | [], _ => rfl
  | n :: ns, x => (M.wr_len ns (M.wr1 x n)).trans (M.wr1_len x n)
/-- Right tapes are right still: blocks are 64 bytes, and as many as there is room for. -/
theorem M.wr1_right {x : M.WrS} {n : Int} (ht : ∀ t ∈ x.ts, M.tapeR t = true) (hb : ∀ s ∈ x.bs, s.size = 64) : (∀ t ∈ (M.wr1 x n).ts, M.tapeR t = true) ∧ ∀ s ∈ (M.wr1 x n).bs, s.size = 64 := by
  unfold M.wr1
  cases hx : x.ts[n.toNat]? with
  | none => exact ⟨ht, hb⟩
  | some t =>
    show (∀ u ∈ (if M.wrM t x.bs = 0 then x else _ : M.WrS).ts, _) ∧ ∀ s ∈ (if M.wrM t x.bs = 0 then x else _ : M.WrS).bs, _
    by_cases h0 : M.wrM t x.bs = 0
    · rw [if_pos h0]; exact ⟨ht, hb⟩
    · rw [if_neg h0]
      refine ⟨fun u hu => ?_, fun s hs => hb s (List.mem_of_mem_drop hs)⟩
      rcases List.mem_or_eq_of_mem_set hu with h1 | rfl
      · exact ht u h1
      · obtain ⟨r1, r2, r3, r4, r5⟩ := M.tapeR_iff.1 (ht t (List.mem_of_getElem? hx))
        have hm : (M.wrM t x.bs : Int) ≤ t.room - t.ss.length := by unfold M.wrM; omega
        have hlen : (t.ss ++ x.bs.take (M.wrM t x.bs)).length = t.ss.length + M.wrM t x.bs := by rw [List.length_append, List.length_take]; unfold M.wrM; omega
        refine M.tapeR_iff.2 ⟨r1, r2, ?_, ⟨r4.1, ?_⟩, fun s hs => ?_⟩
        · show ((t.ss ++ x.bs.take (M.wrM t x.bs)).length : Int) ≤ t.room
          rw [hlen]; omega
        · show t.syn ≤ ((t.ss ++ x.bs.take (M.wrM t x.bs)).length : Int)
          rw [hlen]; omega
        · rcases List.mem_append.1 hs with h2 | h2
          · exact r5 s h2
          · exact hb s (List.mem_of_mem_take h2)
theorem M.wr_right : ∀ (ns : List Int) {x : M.WrS}, (∀ t ∈ x.ts, M.tapeR t = true) → (∀ s ∈ x.bs, s.size = 64) → (∀ t ∈ (M.wr x ns).ts, M.tapeR t = true) ∧ ∀ s ∈ (M.wr x ns).bs, s.size = 64
  | [], _, ht, hb => ⟨ht, hb⟩
  | n :: ns, x, ht, hb => M.wr_right ns (x := M.wr1 x n) (M.wr1_right ht hb).1 (M.wr1_right ht hb).2
end Go.Proofs.Ytappficbjjkmiaa
