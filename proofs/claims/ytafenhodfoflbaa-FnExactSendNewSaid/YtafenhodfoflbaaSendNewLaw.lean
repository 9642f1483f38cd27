/-
  SendNew of the program answers as that of the specification, at every text; its answer owns its memory.
-/
import Derived.Test.YtafenhodfoflbaaISendNew
import Derived.Test.YtafenhodfoflbaaSSendNew
import Derived.Test.YtafenhodfoflbaaSendEq
import Derived.Test.YtafenhodfoflbaaSendMarks
namespace Go.Proofs.Ytafenhodfoflbaa
open Go.RowKit

set_option maxRecDepth 100000 in
set_option maxHeartbeats 6400000 in
theorem fnExactSendNew_walk (s : ByteArray) (w : World) (hs : s.size ≤ maxLen) :
    Calls Try.prog 8 #[.string s] w fun e w' => e = .returned (.bool true) ∧ Below w.heap.size w w' := by
  have HS := M.hl hs
  unfold maxLen at hs
  by_cases hbig : 1048576 < s.size
  · have d0 : decide (1048576 < (s.size : Int)) = true := decide_eq_true (by omega)
    go_enter Try.func8, Try.ntmps8
    go_wp2
    go_ret
    exact ⟨rfl, Below.refl _ _⟩
  have d0 : decide (1048576 < (s.size : Int)) = false := decide_eq_false (by omega)
  have h300 := M.piecesOf_len s
  have CI : Hid (∀ W, Calls Try.prog 40 #[.string s] W fun e w' => ∃ v, e = .returned (.agg #[v, .int .i64 0, .int .i64 0, .int .i64 (M.newW s)]) ∧ M.OwnS w' W.heap.size v (M.piecesOf s) ∧ Below W.heap.size W w') := fun W => iSendNew_any s W HS.out
  have CS : Hid (∀ W, Calls Try.prog 39 #[.string s] W fun e w' => ∃ v, e = .returned (.agg #[v, .int .i64 0, .int .i64 0, .int .i64 (M.newW s)]) ∧ M.OwnS w' W.heap.size v (M.piecesOf s) ∧ Below W.heap.size W w') := fun W => sSendNew_any s W HS.out
  generalize M.newW s = t at CI CS
  generalize M.piecesOf s = ss at CI CS h300
  clear HS
  go_enter Try.func8, Try.ntmps8
  go_wp2_with fail
  refine (CS.out _).mono ?_
  rintro e w3 ⟨v3, rfl, hO3, hb3⟩
  obtain ⟨a3, c3, rfl, -⟩ := hO3.strs
  have O3 := M.hl hO3
  have B3 := M.hl (fun o => hb3.alloc hb3.size o)
  have ST3 : Hid (∀ W, Below (w3.alloc (.cells #[.slice a3 ss.length c3, .int .i64 0, .int .i64 0, .int .i64 t] 33)).heap.size (w3.alloc (.cells #[.slice a3 ss.length c3, .int .i64 0, .int .i64 0, .int .i64 t] 33)) W → M.Strs W a3 ss.length c3 ss) := fun W hW => by
    obtain ⟨a', cap', e, hs⟩ := ((O3.out.below (M.all1 _)).below hW).strs
    cases e
    exact hs
  clear hO3 hb3
  go_wp2_with fail
  refine (CI.out _).mono ?_
  rintro e w5 ⟨v5, rfl, hO5, hb5⟩
  obtain ⟨a5, c5, rfl, -⟩ := hO5.strs
  have O5 := M.hl hO5
  have B35 := M.hl (fun o => hb5.alloc hb5.size o)
  have BW5 := M.hl (fun o => M.sl (B3.out _) (hb5.alloc hb5.size o))
  have NB5 : Hid (∀ j, (Value.slice a5 ss.length c5).ownBlock = some j → w3.heap.size + 1 ≤ j ∧ j < w5.heap.size) := fun j hj => by have := World.ownsRow.lt hO5 j hj; simpa using this
  have ST5 : Hid (∀ o, M.Strs (w5.alloc o) a5 ss.length c5 ss) := fun o => by
    obtain ⟨a', cap', e, hs⟩ := (O5.out.below (M.all1 o)).strs
    cases e
    exact hs
  have m0 : ∀ o, (w5.alloc o).cell? ⟨w3.heap.size, 0, none⟩ = some (.slice a3 ss.length c3) := fun o => M.bxd (B35.out o) 0 _ rfl
  have m1 : ∀ o, (w5.alloc o).cell? ⟨w3.heap.size, 1, none⟩ = some (.int .i64 0) := fun o => M.bxd (B35.out o) 1 _ rfl
  have m2 : ∀ o, (w5.alloc o).cell? ⟨w3.heap.size, 2, none⟩ = some (.int .i64 0) := fun o => M.bxd (B35.out o) 2 _ rfl
  have m3 : ∀ o, (w5.alloc o).cell? ⟨w3.heap.size, 3, none⟩ = some (.int .i64 t) := fun o => M.bxd (B35.out o) 3 _ rfl
  clear hO5 hb5
  obtain ⟨N2, hN2⟩ : ∃ N2, N2 = 1 + ss.length := ⟨_, rfl⟩
  have CMo : Hid (∀ W base, M.OwnS W base (.slice a5 ss.length c5) ss → Calls Try.prog 42 #[.agg #[.slice a5 ss.length c5, .int .i64 0, .int .i64 0, .int .i64 t], .int .i64 1] W fun e w' => e = .returned (.int .i64 (N2 : Int)) ∧ M.OwnS w' base (.slice a5 ss.length c5) (M.mts ss.length 1) ∧ W.grownBy w' (Value.slice a5 ss.length c5).ownBlock) := fun W base hW => by
    rw [hN2]; exact markSend_own W base _ ss 0 0 t hW (by omega)
  have CHo : Hid (∀ W base, M.OwnS W base (.slice a5 ss.length c5) (M.mts ss.length 1) → Calls Try.prog 43 #[.agg #[.slice a5 ss.length c5, .int .i64 0, .int .i64 0, .int .i64 t], .int .i64 1] W fun e w' => e = .returned (.int .i64 (N2 : Int)) ∧ Below W.heap.size W w') := fun W base hW => by
    rw [hN2]; exact heldSend_own W base _ ss.length 0 0 t hW (by omega)
  have hN2b : N2 ≤ 3000000 := by omega
  have dN2 : decide ((N2 : Int) < 0) = false := decide_eq_false (by omega)
  have dq : ((N2 : Int) != (N2 : Int)) = false := by simp
  clear hN2
  go_wp2_with fail
  refine (eqSend_same _ a5 a3 ss.length c5 ss.length c3 ss 0 0 t (ST5.out _) (ST3.out _ (B35.out _))).mono ?_
  rintro e w6 ⟨rfl, hb⟩
  have B36 := M.hl (M.sl (B35.out _) hb)
  have BW6 := M.hl (M.sl (BW5.out _) hb)
  have O6 := M.hl ((O5.out.below (M.all1 _)).below hb)
  have E6 := M.hl ((hb.block w5.heap.size (by simp)).trans (heap_alloc_new _ _))
  clear hb m0 m1 m2 m3
  have f0 := M.bk_cell E6.out 0 (.slice a5 ss.length c5) rfl
  have f1 := M.bk_cell E6.out 1 (.int .i64 0) rfl
  have f2 := M.bk_cell E6.out 2 (.int .i64 0) rfl
  have f3 := M.bk_cell E6.out 3 (.int .i64 t) rfl
  go_wp2_with fail
  refine (CMo.out w6 _ O6.out).mono ?_
  rintro e w7 ⟨rfl, hO, hg⟩
  have O7 := M.hl hO
  have B37 := M.hl (B36.out.grown hg B36.out.size (fun j hj => by have := (NB5.out j hj).1; simpa using this))
  have BW7 := M.hl (BW6.out.grown hg BW6.out.size (fun j hj => by have := (NB5.out j hj).1; have := (B3.out (.cells #[] 0)).size; simp at this; omega))
  have E7 := M.hl ((hg.block w5.heap.size (Array.getElem?_eq_some_iff.1 E6.out).1 (fun e => by have := (NB5.out _ e.symm).2; omega)).trans E6.out)
  clear hO hg f0 f1 f2 f3
  have f0 := M.bk_cell E7.out 0 (.slice a5 ss.length c5) rfl
  have f1 := M.bk_cell E7.out 1 (.int .i64 0) rfl
  have f2 := M.bk_cell E7.out 2 (.int .i64 0) rfl
  have f3 := M.bk_cell E7.out 3 (.int .i64 t) rfl
  go_wp2_with fail
  refine (CHo.out w7 _ O7.out).mono ?_
  rintro e w8 ⟨rfl, hb⟩
  have O8 := M.hl (O7.out.below hb)
  have B38 := M.hl (M.sl B37.out hb)
  have BW8 := M.hl (M.sl BW7.out hb)
  have E8 := M.hl ((hb.block w5.heap.size (Array.getElem?_eq_some_iff.1 E7.out).1).trans E7.out)
  clear hb f0 f1 f2 f3
  go_wp2_with fail
  refine (CI.out _).mono ?_
  rintro e w9 ⟨v9, rfl, hO9, hb9⟩
  obtain ⟨a9, c9, rfl, -⟩ := hO9.strs
  have B89 := M.hl (fun o => hb9.alloc hb9.size o)
  have B39 := M.hl (fun o => M.sl B38.out (hb9.alloc hb9.size o))
  have ST9 : Hid (∀ o, M.Strs (w9.alloc o) a9 ss.length c9 ss) := fun o => by
    obtain ⟨a', cap', e, hs⟩ := (hO9.below (M.all1 o)).strs
    cases e
    exact hs
  have m0 : ∀ o, (w9.alloc o).cell? ⟨w3.heap.size, 0, none⟩ = some (.slice a3 ss.length c3) := fun o => M.bxd (B39.out o) 0 _ rfl
  have m1 : ∀ o, (w9.alloc o).cell? ⟨w3.heap.size, 1, none⟩ = some (.int .i64 0) := fun o => M.bxd (B39.out o) 1 _ rfl
  have m2 : ∀ o, (w9.alloc o).cell? ⟨w3.heap.size, 2, none⟩ = some (.int .i64 0) := fun o => M.bxd (B39.out o) 2 _ rfl
  have m3 : ∀ o, (w9.alloc o).cell? ⟨w3.heap.size, 3, none⟩ = some (.int .i64 t) := fun o => M.bxd (B39.out o) 3 _ rfl
  clear hO9 hb9
  go_wp2_with fail
  refine (eqSend_same _ a9 a3 ss.length c9 ss.length c3 ss 0 0 t (ST9.out _) (ST3.out _ (B39.out _))).mono ?_
  rintro e w10 ⟨rfl, hb⟩
  have B810 := M.hl (M.sl (B89.out _) hb)
  have O10 := M.hl (O8.out.below B810.out)
  have E10 := M.hl ((B810.out.block w5.heap.size (Array.getElem?_eq_some_iff.1 E8.out).1).trans E8.out)
  clear hb m0 m1 m2 m3
  have f0 := M.bk_cell E10.out 0 (.slice a5 ss.length c5) rfl
  have f1 := M.bk_cell E10.out 1 (.int .i64 0) rfl
  have f2 := M.bk_cell E10.out 2 (.int .i64 0) rfl
  have f3 := M.bk_cell E10.out 3 (.int .i64 t) rfl
  go_wp2_with fail
  refine (CHo.out w10 _ O10.out).mono ?_
  rintro e w11 ⟨rfl, hb⟩
  have BW11 := M.hl (M.sl (M.sl BW8.out B810.out) hb)
  clear hb f0 f1 f2 f3
  go_wp2
  go_ret
  exact ⟨rfl, BW11.out⟩
end Go.Proofs.Ytafenhodfoflbaa
