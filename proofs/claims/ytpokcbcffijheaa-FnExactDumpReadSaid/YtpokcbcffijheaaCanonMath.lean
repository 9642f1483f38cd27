/-
  What was read is what its bytes are made of: numbers and texts.
-/
import Derived.Test.YtpokcbcffijheaaPart2
import Derived.Test.YtpokcbcffijheaaPart3
import Derived.Lib.Strings
namespace Go.Proofs.Ytpokcbcffijheaa
open Go.RowKit
namespace M

theorem un_fold (u : Nat) : foldZ (unZ u) = u := by
  unfold unZ foldZ
  by_cases h : u % 2 = 1
  · rw [if_pos h, if_pos (by omega)]; omega
  · rw [if_neg h, if_neg (by omega)]; omega

/-- Where a number is read, its bytes stand there. -/
theorem num_canon {s : ByteArray} {k : Nat} (h : (num3 s (k : Int)).2.2 = 0) :
    s.data.toList.drop k = enc (foldZ (num3 s (k : Int)).1) ++ s.data.toList.drop (num3 s (k : Int)).2.1.toNat := by
  have hs : ¬ 20000 < s.size := by
    intro hs; rw [num3_size hs] at h; cases h
  rw [num3_in hs] at h ⊢
  generalize hr : rd 0 0 (s.data.toList.drop k) = r at *
  obtain ⟨c, v, m⟩ := r
  simp only at h ⊢
  subst h
  rw [if_pos rfl, if_pos rfl, un_fold]
  obtain ⟨u, rest, hl, hk, hv, -, -⟩ := rd_canon _ 0 0 v m (by omega) hr
  obtain rfl : v = u := by rw [hv]; simp
  have hm : m = (enc v).length := by omega
  rw [show ((k : Int) + (m : Int)).toNat = k + m by omega, ← List.drop_drop, hl, hm, List.drop_left]

/-- Where a text is read, its bytes stand there. -/
theorem txt_canon {s : ByteArray} {k : Nat} (h : (txt3 s (k : Int)).2.2 = 0) :
    s.data.toList.drop k = (putText (txt3 s (k : Int)).1).data.toList ++ s.data.toList.drop (txt3 s (k : Int)).2.1.toNat
    ∧ 0 ≤ (txt3 s (k : Int)).2.1 ∧ (txt3 s (k : Int)).2.1 ≤ s.size ∧ (txt3 s (k : Int)).1.size ≤ 20000 ∧ s.size ≤ 20000 := by
  unfold txt3 at h ⊢
  by_cases h1 : (num3 s (k : Int)).2.2 ≠ 0
  · rw [if_pos h1] at h; exact absurd h h1
  rw [if_neg h1] at h ⊢
  by_cases h2 : (num3 s (k : Int)).1 < 0 ∨ 20000 < (num3 s (k : Int)).1
  · rw [if_pos h2] at h; cases h
  rw [if_neg h2] at h ⊢
  by_cases h3 : (s.size : Int) - (num3 s (k : Int)).2.1 < (num3 s (k : Int)).1
  · rw [if_pos h3] at h; cases h
  rw [if_neg h3]
  have h1' : (num3 s (k : Int)).2.2 = 0 := Classical.not_not.1 h1
  have hc := num_canon h1'
  obtain ⟨b1, b2, b3, b4, b5⟩ := num3_ok h1'
  generalize (num3 s (k : Int)).1 = n, (num3 s (k : Int)).2.1 = a at *
  clear h h1 h1'
  obtain ⟨a, rfl⟩ := Int.eq_ofNat_of_zero_le b1
  obtain ⟨n, rfl⟩ := Int.eq_ofNat_of_zero_le (show 0 ≤ n by omega)
  simp only [Int.toNat_natCast] at hc ⊢
  have hz : (s.extract a (a + n)).size = n := by rw [ByteArray.size_extract]; omega
  refine ⟨?_, by omega, by omega, by omega, b5⟩
  rw [putText_small (by rw [hz]; omega), hz, hc, ByteArray.data_append, Array.toList_append, List.append_assoc]
  congr 1
  rw [Lib.extract_data, show a + n - a = n by omega, show ((a : Int) + (n : Int)).toNat = a + n by omega, ← List.drop_drop, List.take_append_drop]
end M
end Go.Proofs.Ytpokcbcffijheaa
