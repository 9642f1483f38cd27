/-
  PiecesOf of the program answers as that of the specification, at every text; its answer owns its memory.
-/
import Derived.Test.YtafenhodfoflbaaIPieces
import Derived.Test.YtafenhodfoflbaaSPieces
import Derived.Test.YtafenhodfoflbaaStrMarks
import Derived.Test.YtafenhodfoflbaaSendMarks
namespace Go.Proofs.Ytafenhodfoflbaa
open Go.RowKit

set_option maxRecDepth 100000 in
set_option maxHeartbeats 3200000 in
theorem fnExactPiecesOf_walk (s : ByteArray) (w : World) (hs : s.size ≤ maxLen) :
    Calls Try.prog 5 #[.string s] w fun e w' => e = .returned (.bool true) ∧ Below w.heap.size w w' := by
  have HS := M.hl hs
  unfold maxLen at hs
  by_cases hbig : 1048576 < s.size
  · have d0 : decide (1048576 < (s.size : Int)) = true := decide_eq_true (by omega)
    go_enter Try.func5, Try.ntmps5
    go_wp2
    go_ret
    exact ⟨rfl, Below.refl _ _⟩
  have d0 : decide (1048576 < (s.size : Int)) = false := decide_eq_false (by omega)
  have h300 := M.piecesOf_len s
  have CI : Hid (∀ W, Calls Try.prog 10 #[.string s] W fun e w' => ∃ v, e = .returned v ∧ M.OwnS w' W.heap.size v (M.piecesOf s) ∧ Below W.heap.size W w') := fun W => iPieces_any s W HS.out
  have CS : Hid (∀ W, Calls Try.prog 11 #[.string s] W fun e w' => ∃ v, e = .returned v ∧ M.OwnS w' W.heap.size v (M.piecesOf s) ∧ Below W.heap.size W w') := fun W => sPieces_any s W HS.out
  generalize M.piecesOf s = ss at CI CS h300
  clear HS
  go_enter Try.func5, Try.ntmps5
  go_wp2_with fail
  refine (CS.out _).mono ?_
  rintro e w3 ⟨v3, rfl, hO3, hb3⟩
  obtain ⟨a3, c3, rfl, hst3⟩ := hO3.strs
  have S3 := M.hl hst3
  have B3 := M.hl hb3
  clear hO3 hst3 hb3
  go_wp2_with fail
  refine (CI.out _).mono ?_
  rintro e w5 ⟨v5, rfl, hO5, hb5⟩
  obtain ⟨a5, c5, rfl, hst5⟩ := hO5.strs
  have O5 := M.hl hO5
  have S5 := M.hl hst5
  have B35 := M.hl hb5
  have NB5 : Hid (∀ j, (Value.slice a5 ss.length c5).ownBlock = some j → w3.heap.size ≤ j ∧ j < w5.heap.size) := fun j hj => World.ownsRow.lt hO5 j hj
  clear hO5 hst5 hb5
  obtain ⟨N2, hN2⟩ : ∃ N2, N2 = 1 + ss.length := ⟨_, rfl⟩
  have CMo : Hid (∀ W base, M.OwnS W base (.slice a5 ss.length c5) ss → Calls Try.prog 31 #[.slice a5 ss.length c5, .int .i64 1] W fun e w' => e = .returned (.int .i64 (N2 : Int)) ∧ M.OwnS w' base (.slice a5 ss.length c5) (M.mts ss.length 1) ∧ W.grownBy w' (Value.slice a5 ss.length c5).ownBlock) := fun W base hW => by
    rw [hN2]; exact markStringS_own W base _ ss hW (by omega)
  have CHo : Hid (∀ W base, M.OwnS W base (.slice a5 ss.length c5) (M.mts ss.length 1) → Calls Try.prog 32 #[.slice a5 ss.length c5, .int .i64 1] W fun e w' => e = .returned (.int .i64 (N2 : Int)) ∧ Below W.heap.size W w') := fun W base hW => by
    rw [hN2]; exact heldStringS_own W base _ ss.length hW (by omega)
  have hN2b : N2 ≤ 3000000 := by omega
  have dN2 : decide ((N2 : Int) < 0) = false := decide_eq_false (by omega)
  have dq : ((N2 : Int) != (N2 : Int)) = false := by simp
  clear hN2
  go_wp2_with fail
  refine (eqStringS_any w5 a5 a3 ss.length c5 ss.length c3 ss ss S5.out (S3.out.below B35.out)).mono ?_
  rintro e w6 ⟨u, rfl, hu, hb6⟩
  obtain rfl := hu.2 rfl
  have B36 := M.hl (M.sl B35.out hb6)
  have O6 := M.hl (O5.out.below hb6)
  clear hu hb6
  go_wp2_with fail
  refine (CMo.out w6 _ O6.out).mono ?_
  rintro e w7 ⟨rfl, hO, hg⟩
  have O7 := M.hl hO
  have B37 := M.hl (B36.out.grown hg B36.out.size (fun j hj => (NB5.out j hj).1))
  clear hO hg
  go_wp2_with fail
  refine (CHo.out w7 _ O7.out).mono ?_
  rintro e w8 ⟨rfl, hb⟩
  have O8 := M.hl (O7.out.below hb)
  have B38 := M.hl (M.sl B37.out hb)
  clear hb
  go_wp2_with fail
  refine (CI.out _).mono ?_
  rintro e w9 ⟨v9, rfl, hO9, hb9⟩
  obtain ⟨a9, c9, rfl, hst9⟩ := hO9.strs
  have S9 := M.hl hst9
  have B39 := M.hl (M.sl B38.out hb9)
  have O9 := M.hl (O8.out.below hb9)
  clear hO9 hst9 hb9
  go_wp2_with fail
  refine (eqStringS_any w9 a9 a3 ss.length c9 ss.length c3 ss ss S9.out (S3.out.below B39.out)).mono ?_
  rintro e w10 ⟨u, rfl, hu, hb⟩
  obtain rfl := hu.2 rfl
  have O10 := M.hl (O9.out.below hb)
  have B310 := M.hl (M.sl B39.out hb)
  clear hu hb
  go_wp2_with fail
  refine (CHo.out w10 _ O10.out).mono ?_
  rintro e w11 ⟨rfl, hb⟩
  have B11 := M.hl (M.sl B3.out (M.sl B310.out hb))
  clear hb
  go_wp2
  go_ret
  exact ⟨rfl, B11.out⟩
end Go.Proofs.Ytafenhodfoflbaa
