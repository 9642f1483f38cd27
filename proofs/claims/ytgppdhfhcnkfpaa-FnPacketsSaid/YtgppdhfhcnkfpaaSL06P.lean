/-
  What l06Packet of the specification does.
-/
import Derived.Test.YtgppdhfhcnkfpaaPart3
import Derived.Test.YtgppdhfhcnkfpaaSPktR
namespace Go.Proofs.Ytgppdhfhcnkfpaa
open Go.RowKit

set_option maxRecDepth 100000 in
set_option maxHeartbeats 1600000 in
theorem sL06P_any (w : World) (a : Option Addr) (n c : Nat) (ss : List ByteArray) (j : Nat) (s : ByteArray) (h : M.Strs w a n c ss) (hj : ss[j]? = some s) (hs : s.size ≤ 100000000) (hn9 : n ≤ 1048576) :
    Calls Try.prog 52 #[.slice a n c, .int .i64 (j : Int)] w fun e w' => e = .returned (M.pval (M.pmk ss j s)) ∧ Below w.heap.size w w' := by
  have hjl : j < ss.length := (List.getElem?_eq_some_iff.1 hj).1
  have HB : Hid (∀ o, Below w.heap.size w (w.alloc o)) := fun o => (Below.refl _ _).alloc (Nat.le_refl _) _
  have HN : Hid (n = ss.length) := h.1
  have hjn : j < n := by rw [h.1]; exact hjl
  obtain ⟨-, -, -, hfa⟩ := h
  obtain ⟨b, off, rfl, hat⟩ := hfa (by omega)
  have c0 := hat j hjl
  have hje : ss[j] = s := (List.getElem?_eq_some_iff.1 hj).2
  rw [hje] at c0
  have hbs : b < w.heap.size := World.block_lt_of_cell? w _ c0
  have d0 : ∀ o, (w.alloc o).cell? ⟨b, off + j, none⟩ = some (.string s) := fun o => ((HB.out o).cell (p := ⟨b, off + j, none⟩) hbs).trans c0
  unfold M.pmk
  rw [← HN.out]
  generalize hl : ((j : Int) == (n : Int) - 1) = l
  have CM : Hid (∀ W, Calls Try.prog 66 #[.agg #[.int .i64 (j : Int), .bool l, .string s, .int .i64 0]] W fun e w' => e = .returned (.int .i64 (M.pcrc (j : Int) l s)) ∧ Below W.heap.size W w') := fun W => sCrc6_any (j : Int) l s 0 W (by omega) (by omega) hs
  generalize M.pcrc (j : Int) l s = r at CM
  clear hat hfa c0 hj hje HN hjl
  go_enter Try.func52, Try.ntmps52
  go_wp2_with fail
  refine (CM.out _).mono ?_
  rintro e w1 ⟨rfl, hb⟩
  obtain ⟨t0, t1⟩ := M.thr2 w (.cells #[.int .i64 0, .bool false, .string ⟨#[]⟩, .int .i64 0] 29) (.cells #[.int .i64 (j : Int), .bool l, .string s, .int .i64 0] 29)
  have u0 := (hb.block w.heap.size (by simp; omega)).trans t0
  have u1 := (hb.block (w.heap.size + 1) (by simp)).trans t1
  have r0 := M.bk_cell u0 0 _ rfl
  have r1 := M.bk_cell u0 1 _ rfl
  have r2 := M.bk_cell u0 2 _ rfl
  have r3 := M.bk_cell u0 3 _ rfl
  have k0 := M.bk_cell u1 0 _ rfl
  have k1 := M.bk_cell u1 1 _ rfl
  have k2 := M.bk_cell u1 2 _ rfl
  have k3 := M.bk_cell u1 3 _ rfl
  have fr := M.bk_free u0
  have fk := M.bk_free u1
  have B1 := M.hl (M.sl (((Below.refl w.heap.size w).alloc (Nat.le_refl _) _).alloc (by simp) _) hb)
  clear hb u0 u1 t0 t1
  go_wp2
  refine bodyPost_ret (v := .agg #[.int .i64 (j : Int), .bool l, .string s, .int .i64 r]) (by simp [results, Try.results52, go_sem, r0, r1, r2, r3]) rfl ⟨rfl, ?_⟩
  exact ((((B1.out.setCell (by simp) _).setCell (by simp) _).setCell (by simp) _).setCell (by simp) _).setCell (by simp) _
end Go.Proofs.Ytgppdhfhcnkfpaa
