/-
  What toTape and toTapeS of the laws do: tapes of the call's own.
-/
import Derived.Test.YtmafkcnnhkkleaaStrWalks
import Derived.Test.YtmafkcnnhkkleaaOwnTape
namespace Go.Proofs.Ytmafkcnnhkkleaa
open Go.RowKit

theorem Try.infoTp : (Try.prog.info? 36).map (fun i => (i.zero, i.size, i.bytes)) = some (some (.agg #[.int .i64 0, .slice none 0 0, .int .i64 0, .int .i64 0]), 4, 48) := by kernel_rfl
theorem M.ownS_of {w : World} {g lo : Nat} {ss : List ByteArray} (hat : M.StrsAt w g 0 ss) (hr : M.Row w g 9 ss.length) (hb : lo ≤ g) (hl : ss.length ≤ maxLen) : M.OwnS w lo (.slice (some ⟨g, 0, none⟩) ss.length ss.length) ss := by
  obtain ⟨cur, hh, hz⟩ := hr
  refine ⟨by simp, .inr ⟨g, ss.length, cur, rfl, hb, hh, Nat.le_refl _, hl, by rw [hz, Nat.mul_one], ?_⟩⟩
  apply List.ext_getElem?
  intro t
  rw [Nat.mul_one]
  by_cases h : t < ss.length
  · rw [List.getElem?_take_of_lt h]
    have hc := hat t h
    rw [Nat.zero_add] at hc
    rw [List.getElem?_map, List.getElem?_eq_getElem h, Option.map_some, ← hc]
    simp [World.cell?, hh]
  · rw [List.getElem?_eq_none (by rw [List.length_take]; exact Nat.le_trans (Nat.min_le_left _ _) (by omega)), List.getElem?_eq_none (by simp; omega)]
theorem toStringS_own (w : World) (a : Option Addr) (len cap : Nat) (ss : List ByteArray) (h : M.Strs w a len cap ss) (hlen : len ≤ 1048576) :
    Calls Try.prog 83 #[.slice a len cap] w fun e w' => ∃ b : Nat, e = .returned (.slice (some ⟨b, 0, none⟩) len len) ∧ w.heap.size ≤ b ∧ M.OwnS w' w.heap.size (.slice (some ⟨b, 0, none⟩) len len) ss ∧ Below w.heap.size w w' := by
  refine (toStringS_any w a len cap ss h hlen).mono ?_
  rintro e w' ⟨rfl, hat, hr, hb⟩
  obtain rfl := h.1
  exact ⟨_, rfl, Nat.le_refl _, M.ownS_of hat hr (Nat.le_refl _) (by unfold maxLen; omega), hb⟩

set_option maxRecDepth 100000 in
set_option maxHeartbeats 1600000 in
theorem toTape_any (w : World) (a : Option Addr) (n c : Nat) (ss : List ByteArray) (x y z : Int) (h : M.Strs w a n c ss) (hl : n ≤ 1048576) :
    Calls Try.prog 67 #[.agg #[.int .i64 x, .slice a n c, .int .i64 y, .int .i64 z]] w fun e w' => ∃ b : Nat, e = .returned (.agg #[.int .i64 x, .slice (some ⟨b, 0, none⟩) n n, .int .i64 y, .int .i64 z]) ∧
      M.OwnS w' w.heap.size (.slice (some ⟨b, 0, none⟩) n n) ss ∧ w.heap.size ≤ b ∧ Below w.heap.size w w' := by
  have CS : Hid (∀ W, Below w.heap.size w W → w.heap.size + 1 + 1 + 1 = W.heap.size → Calls Try.prog 83 #[.slice a n c] W fun e w' => ∃ b : Nat, e = .returned (.slice (some ⟨b, 0, none⟩) n n) ∧ w.heap.size + 1 + 1 + 1 ≤ b ∧ M.OwnS w' (w.heap.size + 1 + 1 + 1) (.slice (some ⟨b, 0, none⟩) n n) ss ∧ Below W.heap.size W w') := fun W hW hs => by
    rw [hs]; exact toStringS_own W a n c ss (h.below hW) hl
  clear h
  obtain ⟨W3, hW3⟩ : ∃ W3, W3 = ((w.alloc (.cells #[.int .i64 x, .slice a n c, .int .i64 y, .int .i64 z] 95)).alloc (.cells #[.int .i64 0, .slice none 0 0, .int .i64 0, .int .i64 0] 36)).alloc (.cells #[.int .i64 x, .slice none 0 0, .int .i64 0, .int .i64 0] 36) := ⟨_, rfl⟩
  obtain ⟨t0, t1, t2⟩ := M.thr3 w (.cells #[.int .i64 x, .slice a n c, .int .i64 y, .int .i64 z] 95) (.cells #[.int .i64 0, .slice none 0 0, .int .i64 0, .int .i64 0] 36) (.cells #[.int .i64 x, .slice none 0 0, .int .i64 0, .int .i64 0] 36)
  rw [← hW3] at t0 t1 t2
  have T0 := M.hl t0
  have T1 := M.hl t1
  have T2 := M.hl t2
  have B3 : Hid (Below w.heap.size w W3) := by rw [hW3]; exact (((Below.refl _ _).alloc (Nat.le_refl _) _).alloc (by simp) _).alloc (by simp; omega) _
  have Z3 : Hid (W3.heap.size = w.heap.size + 1 + 1 + 1) := by rw [hW3]; show _ = _; simp
  clear t0 t1 t2
  go_enter Try.func67, Try.ntmps67
  go_wp2_with fail
  rw [← hW3]
  refine (CS.out _ B3.out (by have := Z3.out; omega)).mono ?_
  rintro e w1 ⟨b, rfl, hbb, hO, hb⟩
  have O1 := M.hl hO
  have HB := M.hl hbb
  have hz := Z3.out
  have B1 : Hid (Below w.heap.size w w1) := B3.out.trans (hb.mono B3.out.size)
  have u0 := (hb.block w.heap.size (by rw [hz]; omega)).trans T0.out
  have u1 := (hb.block (w.heap.size + 1) (by rw [hz]; omega)).trans T1.out
  have u2 := (hb.block (w.heap.size + 1 + 1) (by rw [hz]; omega)).trans T2.out
  have k2 := M.bk_cell u0 2 (.int .i64 y) rfl
  have k3 := M.bk_cell u0 3 (.int .i64 z) rfl
  have r0 := M.bk_cell u1 0 (.int .i64 0) rfl
  have r1 := M.bk_cell u1 1 (.slice none 0 0) rfl
  have r2 := M.bk_cell u1 2 (.int .i64 0) rfl
  have r3 := M.bk_cell u1 3 (.int .i64 0) rfl
  have s0 := M.bk_cell u2 0 (.int .i64 x) rfl
  have s1 := M.bk_cell u2 1 (.slice none 0 0) rfl
  have s2 := M.bk_cell u2 2 (.int .i64 0) rfl
  have s3 := M.bk_cell u2 3 (.int .i64 0) rfl
  have fr := M.bk_free u1
  have ft := M.bk_free u2
  clear hO hb hW3 hbb u0 u1 u2 hz
  go_wp2
  refine bodyPost_ret (v := .agg #[.int .i64 x, .slice (some ⟨b, 0, none⟩) n n, .int .i64 y, .int .i64 z]) (by simp [results, Try.results67, go_sem, r0, r1, r2, r3]) rfl ⟨_, rfl, ?_, by have := HB.out; omega, ?_⟩
  · exact (((((((O1.out.setLow (by omega) _ _).setLow (by omega) _ _).setLow (by omega) _ _).setLow (by omega) _ _).setLow (by omega) _ _).setLow (by omega) _ _).setLow (by omega) _ _).lower (by omega)
  · exact ((((((B1.out.setCell (by simp; omega) _).setCell (by simp; omega) _).setCell (by simp; omega) _).setCell (by simp) _).setCell (by simp) _).setCell (by simp) _).setCell (by simp) _
end Go.Proofs.Ytmafkcnnhkkleaa
