/-
  What senderCopy of the program and l06Sender of the specification do.
-/
import Derived.Test.YtgppdhfhcnkfpaaICopyT
import Derived.Test.YtgppdhfhcnkfpaaLinkBox
import Derived.Test.YtgppdhfhcnkfpaaOwnStrMore
namespace Go.Proofs.Ytgppdhfhcnkfpaa
open Go.RowKit

set_option maxRecDepth 100000 in
set_option maxHeartbeats 1600000 in
theorem iSCopy_any (w : World) (a : Option Addr) (n c : Nat) (ss : List ByteArray) (x d t : Int) (h : M.Strs w a n c ss) (hok : ∀ s ∈ ss, s.size ≤ 100000000) (hl : n ≤ 1048576) :
    Calls Try.prog 58 #[.agg #[.slice a n c, .int .i64 x, .int .i64 d, .int .i64 t]] w fun e w' => ∃ v, e = .returned (.agg #[v, .int .i64 x, .int .i64 d, .int .i64 t]) ∧ M.OwnS w' w.heap.size v ss ∧ Below w.heap.size w w' := by
  have HB : Hid (∀ o1 o2, Below w.heap.size w ((w.alloc o1).alloc o2)) := fun o1 o2 => ((Below.refl _ _).alloc (Nat.le_refl _) _).alloc (by simp) _
  have CS : Hid (∀ o1 o2, Calls Try.prog 53 #[.slice a n c] ((w.alloc o1).alloc o2) fun e w' => ∃ v, e = .returned v ∧ M.OwnS w' (w.heap.size + 1 + 1) v ss ∧ Below ((w.alloc o1).alloc o2).heap.size ((w.alloc o1).alloc o2) w') := fun o1 o2 => by
    have := iCopyT_any ((w.alloc o1).alloc o2) a n c ss (h.below (HB.out o1 o2)) hok hl
    simpa using this
  clear h hok
  go_enter Try.func58, Try.ntmps58
  go_wp2_with fail
  refine (CS.out _ _).mono ?_
  rintro e w1 ⟨v, rfl, hO, hb⟩
  have O1 := M.hl hO
  have B1 : Hid (Below w.heap.size w w1) := (HB.out _ _).trans (hb.mono (HB.out _ _).size)
  obtain ⟨t0, t1⟩ := M.thr2 w (.cells #[.slice a n c, .int .i64 x, .int .i64 d, .int .i64 t] 33) (.cells #[.slice none 0 0, .int .i64 0, .int .i64 0, .int .i64 0] 33)
  have u0 := (hb.block w.heap.size (by simp; omega)).trans t0
  have u1 := (hb.block (w.heap.size + 1) (by simp)).trans t1
  have k0 := M.bk_cell u0 0 (.slice a n c) rfl
  have k1 := M.bk_cell u0 1 (.int .i64 x) rfl
  have k2 := M.bk_cell u0 2 (.int .i64 d) rfl
  have k3 := M.bk_cell u0 3 (.int .i64 t) rfl
  have r0 := M.bk_cell u1 0 (.slice none 0 0) rfl
  have r1 := M.bk_cell u1 1 (.int .i64 0) rfl
  have r2 := M.bk_cell u1 2 (.int .i64 0) rfl
  have r3 := M.bk_cell u1 3 (.int .i64 0) rfl
  have fk := M.bk_free u0
  have fr := M.bk_free u1
  obtain ⟨a', cap', rfl⟩ := hO.len
  clear hO hb t0 t1 u0 u1
  go_wp2
  refine bodyPost_ret (v := .agg #[.slice a' ss.length cap', .int .i64 x, .int .i64 d, .int .i64 t]) (by simp [results, Try.results58, go_sem, r0, r1, r2, r3]) rfl ⟨_, rfl, ?_, ?_⟩
  · exact (((((O1.out.setLow (by omega) _ _).setLow (by omega) _ _).setLow (by omega) _ _).setLow (by omega) _ _).setLow (by omega) _ _).lower (by omega)
  · exact ((((B1.out.setCell (by simp) _).setCell (by simp) _).setCell (by simp) _).setCell (by simp) _).setCell (by simp) _

set_option maxRecDepth 100000 in
set_option maxHeartbeats 1600000 in
theorem sSCopy_any (w : World) (ad : Addr) (n c : Nat) (ss : List ByteArray) (x d t : Int) (h : M.Strs w (some ad) n c ss) (hl : n ≤ 1048576) :
    Calls Try.prog 62 #[.agg #[.slice (some ad) n c, .int .i64 x, .int .i64 d, .int .i64 t]] w fun e w' => ∃ v, e = .returned (.agg #[v, .int .i64 x, .int .i64 d, .int .i64 t]) ∧ M.OwnS w' w.heap.size v ss ∧ Below w.heap.size w w' := by
  obtain ⟨i0, hi, hz0, hz1, hz2⟩ := info_parts Try.infoTx
  have HB : Hid (∀ o1 o2 o3, Below w.heap.size w (((w.alloc o1).alloc o2).alloc o3)) := fun o1 o2 o3 => (((Below.refl _ _).alloc (Nat.le_refl _) _).alloc (by simp) _).alloc (by simp; omega) _
  have HS : Hid (∀ o1 o2 o3, ∀ j u, (ss.map Value.string)[j]? = some u → (((w.alloc o1).alloc o2).alloc o3).cell? (ad.add j) = some u) := fun o1 o2 o3 => (h.below (HB.out o1 o2 o3)).src
  have HE : Hid (∀ o1 o2, World.ownsRow (((w.alloc o1).alloc o2).alloc (.cells #[] 9)) (w.heap.size + 1 + 1) 9 1 (.slice (some ⟨w.heap.size + 1 + 1, 0, none⟩) 0 0) 0 []) := fun o1 o2 => by
    have := M.empty_row ((w.alloc o1).alloc o2) 9 (w.heap.size + 1 + 1) (by simp)
    simpa using this
  have HN : Hid (n = ss.length) := h.1
  clear h
  go_enter Try.func62, Try.ntmps62
  go_wp2_with (at_builtin; refine wpList_append_own _ rfl (.tmp 3) (.tmp 5) 24 rfl (w.heap.size + 1 + 1) 9 i0 (.string ⟨#[]⟩) 1 16 Try.underlying24 hi hz0 hz1 hz2 rfl (by decide) _ _ _ rfl (HE.out _ _) ad n c (ss.map Value.string) rfl ?c1 (HS.out _ _ _) ?c2 ?c3 ?c4 ?c5 ?_)
  case c1 => rw [List.length_map, Nat.mul_one]; exact HN.out.symm
  case c2 => exact fun u hu => by obtain ⟨z, _, rfl⟩ := List.mem_map.1 hu; rfl
  case c3 => unfold maxLen; omega
  case c4 => omega
  case c5 => simp
  intro v w1 hown hg _
  have O1 : Hid (M.OwnS w1 (w.heap.size + 1 + 1) v ss) := by
    show World.ownsRow _ _ _ _ _ _ _
    rw [← HN.out]
    simpa using hown
  have B1 : Hid (Below w.heap.size w w1) := (HB.out _ _ _).grown hg (HB.out _ _ _).size (fun j hj => by simp [Value.ownBlock] at hj; omega)
  obtain ⟨t0, t1, -⟩ := M.thr3 w (.cells #[.slice (some ad) n c, .int .i64 x, .int .i64 d, .int .i64 t] 33) (.cells #[.slice none 0 0, .int .i64 0, .int .i64 0, .int .i64 0] 33) (.cells #[] 9)
  have u0 := (hg.block w.heap.size (by simp; omega) (by simp [Value.ownBlock]; omega)).trans t0
  have u1 := (hg.block (w.heap.size + 1) (by simp) (by simp [Value.ownBlock])).trans t1
  have k0 := M.bk_cell u0 0 (.slice (some ad) n c) rfl
  have k1 := M.bk_cell u0 1 (.int .i64 x) rfl
  have k2 := M.bk_cell u0 2 (.int .i64 d) rfl
  have k3 := M.bk_cell u0 3 (.int .i64 t) rfl
  have r0 := M.bk_cell u1 0 (.slice none 0 0) rfl
  have r1 := M.bk_cell u1 1 (.int .i64 0) rfl
  have r2 := M.bk_cell u1 2 (.int .i64 0) rfl
  have r3 := M.bk_cell u1 3 (.int .i64 0) rfl
  have fk := M.bk_free u0
  have fr := M.bk_free u1
  obtain ⟨a', cap', rfl⟩ := O1.out.len
  clear hown hg t0 t1 u0 u1
  go_wp2
  refine bodyPost_ret (v := .agg #[.slice a' ss.length cap', .int .i64 x, .int .i64 d, .int .i64 t]) (by simp [results, Try.results62, go_sem, r0, r1, r2, r3]) rfl ⟨_, rfl, ?_, ?_⟩
  · exact (((((O1.out.setLow (by omega) _ _).setLow (by omega) _ _).setLow (by omega) _ _).setLow (by omega) _ _).setLow (by omega) _ _).lower (by omega)
  · exact ((((B1.out.setCell (by simp) _).setCell (by simp) _).setCell (by simp) _).setCell (by simp) _).setCell (by simp) _
end Go.Proofs.Ytgppdhfhcnkfpaa
