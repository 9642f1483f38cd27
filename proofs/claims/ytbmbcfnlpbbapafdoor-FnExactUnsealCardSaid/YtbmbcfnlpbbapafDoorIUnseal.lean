/-
  What Unseal of the program does.
-/
import Derived.Test.YtbmbcfnlpbbapafDoorPieceWalk
import Derived.Test.YtbmbcfnlpbbapafDoorSealBase
import Derived.Test.YtbmbcfnlpbbapafDoorNumAny
namespace Go.Proofs.YtbmbcfnlpbbapafDoor
open Go.RowKit


/-- Is it a seal of all but its last four bytes? -/
def M.sealed (s : ByteArray) : Bool := (M.sealT (s.extract 0 (s.size - 4))).toList == s.toList
theorem M.sealed_tail {s : ByteArray} (hs : ¬ 20000 < s.size) (h4 : ¬ s.size < 4) :
    ((⟨(M.four (M.crcMore 0 (s.extract 0 (s.size - 4)))).toArray⟩ : ByteArray).toList == (s.extract (s.size - 4) s.size).toList) = M.sealed s := by
  have hsz := M.extract_size s 0 (s.size - 4) (by omega) (by omega)
  unfold M.sealed
  rw [M.sealT_small (by omega)]
  generalize hf : (⟨(M.four (M.crcMore 0 (s.extract 0 (s.size - 4)))).toArray⟩ : ByteArray) = f
  have e1 : (s.extract 0 (s.size - 4) ++ f).toList = s.toList.take (s.size - 4) ++ f.toList := by
    rw [ByteArray.toList_eq, ByteArray.data_append, Array.toList_append, ← ByteArray.toList_eq, ← ByteArray.toList_eq, Lib.extract_toList, ByteArray.toList_eq s]; simp
  have e2 : (s.extract (s.size - 4) s.size).toList = s.toList.drop (s.size - 4) := by
    rw [Lib.extract_toList, ByteArray.toList_eq s, List.take_of_length_le]; simp
  rw [e1, e2]
  conv => rhs; rhs; rw [← List.take_append_drop (s.size - 4) s.toList]
  rw [Bool.eq_iff_iff, beq_iff_eq, beq_iff_eq]
  exact ⟨fun h => by rw [h], fun h => List.append_cancel_left h⟩

/-- Unseal's text and code. -/
def M.uns (s : ByteArray) : ByteArray × Nat :=
  if 20000 < s.size then (⟨#[]⟩, 2) else if s.size < 4 then (⟨#[]⟩, 4) else if M.sealed s = true then (s.extract 0 (s.size - 4), 0) else (⟨#[]⟩, 5)
theorem M.uns_size {s : ByteArray} (h : 20000 < s.size) : M.uns s = (⟨#[]⟩, 2) := by unfold M.uns; rw [if_pos h]
theorem M.uns_short {s : ByteArray} (h : ¬ 20000 < s.size) (h4 : s.size < 4) : M.uns s = (⟨#[]⟩, 4) := by unfold M.uns; rw [if_neg h, if_pos h4]
theorem M.uns_ok {s : ByteArray} (h : ¬ 20000 < s.size) (h4 : ¬ s.size < 4) (hq : M.sealed s = true) : M.uns s = (s.extract 0 (s.size - 4), 0) := by unfold M.uns; rw [if_neg h, if_neg h4, if_pos hq]
theorem M.uns_sum {s : ByteArray} (h : ¬ 20000 < s.size) (h4 : ¬ s.size < 4) (hq : M.sealed s = false) : M.uns s = (⟨#[]⟩, 5) := by unfold M.uns; rw [if_neg h, if_neg h4, if_neg (by simp [hq])]

set_option maxRecDepth 100000 in
set_option maxHeartbeats 1600000 in
theorem readSealed_any (s : ByteArray) (w : World) (hs : s.size ≤ maxLen) :
    Calls Tryd.prog 15 #[.string s] w fun e w' => e = .returned (.tuple #[.string (M.uns s).1, M.errV (M.uns s).2]) ∧ Below w.heap.size w w' := by
  unfold maxLen at hs
  by_cases h : 20000 < s.size
  · rw [M.uns_size h, M.errV_no (by decide)]
    go_enter Tryd.func15, Tryd.ntmps15
    go_wp2
    go_ret2
    exact ⟨rfl, Below.refl _ _⟩
  by_cases h4 : s.size < 4
  · rw [M.uns_short h h4, M.errV_no (by decide)]
    go_enter Tryd.func15, Tryd.ntmps15
    go_wp2
    go_ret2
    exact ⟨rfl, Below.refl _ _⟩
  have hP : ∀ W, Calls Tryd.prog 17 #[.string s, .int .i64 0, .int .i64 ((s.size : Int) - 4)] W fun e w' => e = .returned (.string (s.extract 0 (s.size - 4))) ∧ Below W.heap.size W w' := fun W => by
    have := pieceOf_any s 0 (s.size - 4) W (by omega) (by omega) (by omega)
    rwa [show ((s.size - 4 : Nat) : Int) = (s.size : Int) - 4 by omega] at this
  have HP : Hid _ := hP
  clear hP
  cases hq : M.sealed s
  · rw [M.uns_sum h h4 hq, M.errV_no (by decide)]
    unfold M.sealed at hq
    generalize hb : s.extract 0 (s.size - 4) = b at HP hq
    have hbs : b.size ≤ maxLen := by
      have := M.extract_size s 0 (s.size - 4) (by omega) (by omega)
      rw [hb] at this; unfold maxLen; omega
    clear hb
    go_enter Tryd.func15, Tryd.ntmps15
    go_wp2_with (first | (go_at_call 17; refine (HP.out _).mono ?_; rintro e w1 ⟨rfl, hb1⟩) | (go_at_call 19; refine (iSeal_any b _ hbs).mono ?_; rintro e w2 ⟨rfl, hb2⟩))
    go_ret2
    exact ⟨rfl, hb1.trans (hb2.mono hb1.size)⟩
  · rw [M.uns_ok h h4 hq, M.errV_ok]
    unfold M.sealed at hq
    generalize hb : s.extract 0 (s.size - 4) = b at HP hq ⊢
    have hbs : b.size ≤ maxLen := by
      have := M.extract_size s 0 (s.size - 4) (by omega) (by omega)
      rw [hb] at this; unfold maxLen; omega
    clear hb
    go_enter Tryd.func15, Tryd.ntmps15
    go_wp2_with (first | (go_at_call 17; refine (HP.out _).mono ?_; rintro e w1 ⟨rfl, hb1⟩) | (go_at_call 19; refine (iSeal_any b _ hbs).mono ?_; rintro e w2 ⟨rfl, hb2⟩))
    go_ret2
    exact ⟨rfl, hb1.trans (hb2.mono hb1.size)⟩

set_option maxRecDepth 100000 in
set_option maxHeartbeats 800000 in
theorem iUnseal_any (s : ByteArray) (w : World) (hs : s.size ≤ maxLen) (hg : M.errT w) :
    Calls Tryd.prog 9 #[.string s] w fun e w' => e = .returned (.agg #[.string (M.uns s).1, .int .i64 0, .int .i64 (M.uns s).2]) ∧ Below w.heap.size w w' := by
  have hR := fun W => readSealed_any s W hs
  revert hR
  generalize (M.uns s).1 = A, (M.uns s).2 = c
  intro hR
  have HR : Hid _ := hR
  have HG : Hid (M.errT w) := hg
  clear hR hg
  go_enter Tryd.func9, Tryd.ntmps9
  go_wp2_with (first | (go_at_call 15; refine (HR.out _).mono ?_; rintro e w1 ⟨rfl, hb1⟩))
  have hsz1 := hb1.size
  simp at hsz1
  refine (codeOf_any c _ (M.errT_below (M.errT_alloc HG.out _) hb1)).mono ?_
  rintro e w2 ⟨rfl, hb2⟩
  obtain ⟨hc1, hf1⟩ := M.bcell hb1
  obtain ⟨hc2, hf2⟩ := M.bcell hb2
  have hsz2 := hb2.size
  have hz1 : w.heap.size < w1.heap.size := by omega
  have hz2 : w.heap.size < w2.heap.size := by omega
  have HB1 : Hid (Below (w.alloc (.cells #[.string ⟨#[]⟩, .int .i64 0, .int .i64 0] 23)).heap.size (w.alloc (.cells #[.string ⟨#[]⟩, .int .i64 0, .int .i64 0] 23)) w1) := hb1
  have HB2 : Hid (Below w1.heap.size w1 w2) := hb2
  clear hb1 hb2
  go_wp2
  refine bodyPost_ret (v := .agg #[.string A, .int .i64 0, .int .i64 c]) (by simp [results, Tryd.results9, go_sem, hc1, hc2, hz1]) rfl ⟨rfl, ?_⟩
  refine ((Below.setCell ?_ (by exact Nat.le_refl _) _).setCell (by exact Nat.le_refl _) _).setCell (by exact Nat.le_refl _) _
  refine Below.trans ?_ (HB2.out.mono (by omega))
  exact ((Below.refl w.heap.size w).alloc (Nat.le_refl _) _).trans (HB1.out.mono (by simp))

end Go.Proofs.YtbmbcfnlpbbapafDoor
