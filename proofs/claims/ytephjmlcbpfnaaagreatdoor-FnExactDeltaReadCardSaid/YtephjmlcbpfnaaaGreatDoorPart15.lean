/-
  A delta's bytes, with no word of the program.
-/
import Derived.Test.YtephjmlcbpfnaaaGreatDoorPart14
import Derived.Test.YtephjmlcbpfnaaaGreatDoorPart6
import Derived.Test.YtephjmlcbpfnaaaGreatDoorPart4
import Derived.Test.YtephjmlcbpfnaaaGreatDoorPart3
import Derived.Test.YtephjmlcbpfnaaaGreatDoorRdCanon
namespace Go.Proofs.YtephjmlcbpfnaaaGreatDoor
open Go.RowKit

/-- How many drops, and each of them. -/
def M.dropsL (n : Nat) (ss : List ByteArray) : List UInt8 := M.enc (M.foldZ (n : Int)) ++ ss.flatMap fun s => (M.putText s).data.toList
theorem M.dropsL_snoc {n k : Nat} {ss : List ByteArray} {s : ByteArray} (h : ss[k]? = some s) : M.dropsL n (ss.take (k + 1)) = M.dropsL n (ss.take k) ++ (M.putText s).data.toList := by
  unfold M.dropsL
  rw [M.take_snocS h, List.flatMap_append, ← List.append_assoc]
  simp
theorem M.putText_le (s : ByteArray) (h : s.size ≤ 150) : (M.putText s).size ≤ 161 := by
  have := M.enc_size (M.foldZ (s.size : Int))
  unfold M.putText
  split
  · exact Nat.zero_le _
  · rw [ByteArray.size_append]; omega
/-- The bytes of a right delta; none: it has none. -/
def M.bytesB (ss : List ByteArray) (fs : List M.FileD) : ByteArray :=
  if (M.packB fs).size = 0 ∨ 20000 < (M.dropsL ss.length ss).length + (M.packB fs).size then ⟨#[]⟩ else ⟨(M.dropsL ss.length ss ++ (M.packB fs).data.toList).toArray⟩
theorem M.packB_le (fs : List M.FileD) : (M.packB fs).size ≤ 20000 := by
  unfold M.packB
  split
  · next h => exact h.2.2
  · exact Nat.zero_le _
end Go.Proofs.YtephjmlcbpfnaaaGreatDoor

/-
  How a delta is read, with no word of the program's running: what was read is what its bytes are made of.
-/
namespace Go.Proofs.YtephjmlcbpfnaaaGreatDoor
open Go.RowKit
namespace M

theorem un_fold (u : Nat) : foldZ (unZ u) = u := by
  unfold unZ foldZ
  by_cases h : u % 2 = 1
  · rw [if_pos h, if_pos (by omega)]; omega
  · rw [if_neg h, if_neg (by omega)]; omega

/-- Where a number is read, its bytes stand there. -/
theorem num_canon {s : ByteArray} {k : Nat} (h : (num3 s (k : Int)).2.2 = 0) :
    s.data.toList.drop k = enc (foldZ (num3 s (k : Int)).1) ++ s.data.toList.drop (num3 s (k : Int)).2.1.toNat := by
  have hs : ¬ 20000 < s.size := by
    intro hs; rw [num3_size hs] at h; cases h
  rw [num3_in hs] at h ⊢
  generalize hr : rd 0 0 (s.data.toList.drop k) = r at *
  obtain ⟨c, v, m⟩ := r
  simp only at h ⊢
  subst h
  rw [if_pos rfl, if_pos rfl, un_fold]
  obtain ⟨u, rest, hl, hk, hv, -, -⟩ := rd_canon _ 0 0 v m (by omega) hr
  obtain rfl : v = u := by rw [hv]; simp
  have hm : m = (enc v).length := by omega
  rw [show ((k : Int) + (m : Int)).toNat = k + m by omega, ← List.drop_drop, hl, hm, List.drop_left]

/-- Where a text is read, its bytes stand there. -/
theorem txt_canon {s : ByteArray} {k : Nat} (h : (txt3 s (k : Int)).2.2 = 0) :
    s.data.toList.drop k = (putText (txt3 s (k : Int)).1).data.toList ++ s.data.toList.drop (txt3 s (k : Int)).2.1.toNat
    ∧ 0 ≤ (txt3 s (k : Int)).2.1 ∧ (txt3 s (k : Int)).2.1 ≤ s.size ∧ (txt3 s (k : Int)).1.size ≤ 20000 ∧ s.size ≤ 20000 := by
  unfold txt3 at h ⊢
  by_cases h1 : (num3 s (k : Int)).2.2 ≠ 0
  · rw [if_pos h1] at h; exact absurd h h1
  rw [if_neg h1] at h ⊢
  by_cases h2 : (num3 s (k : Int)).1 < 0 ∨ 20000 < (num3 s (k : Int)).1
  · rw [if_pos h2] at h; cases h
  rw [if_neg h2] at h ⊢
  by_cases h3 : (s.size : Int) - (num3 s (k : Int)).2.1 < (num3 s (k : Int)).1
  · rw [if_pos h3] at h; cases h
  rw [if_neg h3]
  have h1' : (num3 s (k : Int)).2.2 = 0 := Classical.not_not.1 h1
  have hc := num_canon h1'
  obtain ⟨b1, b2, b3, b4, b5⟩ := num3_ok h1'
  generalize (num3 s (k : Int)).1 = n, (num3 s (k : Int)).2.1 = a at *
  clear h h1 h1'
  obtain ⟨a, rfl⟩ := Int.eq_ofNat_of_zero_le b1
  obtain ⟨n, rfl⟩ := Int.eq_ofNat_of_zero_le (show 0 ≤ n by omega)
  simp only [Int.toNat_natCast] at hc ⊢
  have hz : (s.extract a (a + n)).size = n := by rw [ByteArray.size_extract]; omega
  refine ⟨?_, by omega, by omega, by omega, b5⟩
  rw [putText_small (by rw [hz]; omega), hz, hc, ByteArray.data_append, Array.toList_append, List.append_assoc]
  congr 1
  rw [Lib.extract_data, show a + n - a = n by omega, show ((a : Int) + (n : Int)).toNat = a + n by omega, ← List.drop_drop, List.take_append_drop]

/-- So many texts, one behind the other. -/
def dropsT (s : ByteArray) : Nat → Nat → Option (List ByteArray × Nat)
  | 0, a => some ([], a)
  | n + 1, a => if (txt3 s (a : Int)).2.2 = 0 then (dropsT s n (txt3 s (a : Int)).2.1.toNat).map fun r => ((txt3 s (a : Int)).1 :: r.1, r.2) else none
/-- The paths at the beginning of a delta's bytes, and the place behind them. -/
def headT (s : ByteArray) : Option (List ByteArray × Nat) :=
  if (num3 s 0).2.2 = 0 ∧ 0 ≤ (num3 s 0).1 ∧ (num3 s 0).1 ≤ 40 then dropsT s (num3 s 0).1.toNat (num3 s 0).2.1.toNat else none

theorem dropsT_canon (s : ByteArray) (hs : s.size ≤ 20000) : ∀ (n a : Nat) (ss : List ByteArray) (b : Nat), a ≤ s.size → dropsT s n a = some (ss, b) →
    s.data.toList.drop a = (ss.flatMap fun t => (putText t).data.toList) ++ s.data.toList.drop b ∧ b ≤ s.size ∧ ss.length = n ∧ ∀ t ∈ ss, t.size ≤ 20000
  | 0, a, ss, b, ha, h => by
    cases h
    exact ⟨rfl, ha, rfl, fun t ht => by cases ht⟩
  | n + 1, a, ss, b, ha, h => by
    unfold dropsT at h
    by_cases hc : (txt3 s (a : Int)).2.2 = 0
    · rw [if_pos hc] at h
      obtain ⟨e, t1, t2, t3, -⟩ := txt_canon hc
      cases hd : dropsT s n (txt3 s (a : Int)).2.1.toNat with
      | none => rw [hd] at h; cases h
      | some r =>
        obtain ⟨rs, rb⟩ := r
        rw [hd] at h
        cases h
        obtain ⟨e2, hb, hl, hm⟩ := dropsT_canon s hs n _ rs _ (by omega) hd
        refine ⟨?_, hb, by rw [List.length_cons, hl], ?_⟩
        · rw [e, List.flatMap_cons, List.append_assoc, ← e2]
        · intro t ht
          rcases List.mem_cons.1 ht with rfl | ht
          · exact t3
          · exact hm t ht
    · rw [if_neg hc] at h; cases h

theorem headT_canon {s : ByteArray} {ss : List ByteArray} {a : Nat} (h : headT s = some (ss, a)) :
    s.data.toList = dropsL ss.length ss ++ s.data.toList.drop a ∧ a ≤ s.size ∧ ss.length ≤ 40 ∧ s.size ≤ 20000 ∧ ∀ t ∈ ss, t.size ≤ 20000 := by
  unfold headT at h
  by_cases hc : (num3 s 0).2.2 = 0 ∧ 0 ≤ (num3 s 0).1 ∧ (num3 s 0).1 ≤ 40
  · rw [if_pos hc] at h
    obtain ⟨c1, c2, c3⟩ := hc
    obtain ⟨b1, b2, b3, b4, b5⟩ := num3_ok c1
    have e := num_canon (s := s) (k := 0) c1
    obtain ⟨e2, hb, hl, hm⟩ := dropsT_canon s b5 _ _ ss a (by omega) h
    refine ⟨?_, hb, by omega, b5, hm⟩
    rw [List.drop_zero] at e
    unfold dropsL
    rw [List.append_assoc, ← e2, hl, Int.toNat_of_nonneg c2]
    exact e
  · rw [if_neg hc] at h; cases h

/-- A fault of an archive has a code. -/
theorem readL_code (p : List UInt8 → List UInt8) (t : List UInt8) : ∀ (fuel a : Nat) (st : St) (b : Nat), a ≤ t.length → t.length < fuel + a → readL p t fuel a st ≠ Rd.ill 0 b
  | 0, a, _, b, ha, hf => by omega
  | fuel + 1, a, st, b, ha, hf => by
    unfold readL
    split
    · intro h; cases h
    split
    · intro h; cases h
    split
    · intro h; cases h
    split
    · intro h; cases h
    split
    · intro h; cases h
    · exact readL_code p t fuel _ _ b (by omega) (by omega)

theorem outL_ok {p : List UInt8 → List UInt8} {t : List UInt8} (h : (outL p t).1 = 0) : (packB (outL p t).2.2).data.toList = t ∧ t ≠ [] := by
  unfold outL at h ⊢
  cases hr : readL p t (fuelL t) 0 ⟨[], []⟩ with
  | inl ca =>
    obtain ⟨c, a⟩ := ca
    rw [hr] at h
    have h' : c = 0 := h
    subst h'
    exact absurd hr (readL_code p t _ 0 _ a (Nat.zero_le _) (by unfold fuelL; omega))
  | inr fs =>
    rw [hr] at h
    by_cases he : (packB fs).data.toList = t
    · show (packB (if (packB fs).data.toList = t then ((0 : Int), 0, fs) else (3, 0, [])).2.2).data.toList = t ∧ _
      rw [if_pos he]
      refine ⟨he, ?_⟩
      rintro rfl
      exact readL_nil p fs hr
    · have h' : (if (packB fs).data.toList = t then ((0 : Int), 0, fs) else (3, 0, [])).1 = 0 := h
      rw [if_neg he] at h'
      cases h'
theorem outL_ill {p : List UInt8 → List UInt8} {t : List UInt8} (h : (outL p t).1 ≠ 0) : (outL p t).2.2 = [] := by
  unfold outL at h ⊢
  cases hr : readL p t (fuelL t) 0 ⟨[], []⟩ with
  | inl ca => obtain ⟨c, a⟩ := ca; rfl
  | inr fs =>
    rw [hr] at h
    by_cases he : (packB fs).data.toList = t
    · have h' : (if (packB fs).data.toList = t then ((0 : Int), 0, fs) else (3, 0, [])).1 ≠ 0 := h
      rw [if_pos he] at h'
      exact absurd rfl h'
    · show (if (packB fs).data.toList = t then ((0 : Int), 0, fs) else (3, 0, [])).2.2 = []
      rw [if_neg he]
/-- An archive of no file. -/
theorem outL_none {p : List UInt8 → List UInt8} (hp : RecOk p) {t : List UInt8} (h : (packB []).data.toList = t) : (outL p t).1 = 0 := by
  have hc : (([] : List FileD).length ≤ 20 ∧ (([] : List FileD).all fileR = true) ∧ (archB []).size ≤ 20000) := by
    refine ⟨by decide, rfl, ?_⟩
    unfold archB
    rw [ByteArray.size_append, zerosB_size]
    decide
  have hl : t = [] ++ entriesL [] ++ List.replicate 1024 0 := by
    rw [← h, packB, if_pos hc]
    unfold archB zerosB
    rw [app_list]; rfl
  have := readL_files p hp [] [] [] (fun f hf => by cases hf) (fuelL t) (by unfold fuelL; show 0 < _; omega)
  rw [← hl, List.length_nil, List.append_nil] at this
  unfold outL
  rw [this]
  show (if (packB []).data.toList = t then ((0 : Int), 0, ([] : List FileD)) else (3, 0, [])).1 = 0
  rw [if_pos h]

/-- What was read is right where its bytes are what it was read from, and only there. R: it is right. -/
theorem read_iff {p : List UInt8 → List UInt8} (hp : RecOk p) {s : ByteArray} {ss : List ByteArray} {a : Nat} (h : headT s = some (ss, a)) (R : Prop) [Decidable R] :
    ((if R then bytesB ss (outL p (s.data.toList.drop a)).2.2 else ⟨#[]⟩) = s) ↔ ((outL p (s.data.toList.drop a)).1 = 0 ∧ R) := by
  obtain ⟨e, ha, h40, h20, -⟩ := headT_canon h
  have hne : 1 ≤ (dropsL ss.length ss).length := by
    unfold dropsL
    have := (enc_len (foldZ ((ss.length : Nat) : Int))).1
    rw [List.length_append]; omega
  have hs0 : s ≠ ⟨#[]⟩ := by
    intro h0
    have h1 : s.data.toList = [] := by rw [h0]
    rw [e] at h1
    have := (List.append_eq_nil_iff.1 h1).1
    rw [this] at hne
    exact absurd hne (by decide)
  have hsz : s.size = (dropsL ss.length ss).length + (s.data.toList.drop a).length := by
    rw [Lib.size_eq]
    conv => lhs; rw [e]
    rw [List.length_append]
  constructor
  · intro hb
    by_cases hR : R
    · rw [if_pos hR] at hb
      refine ⟨?_, hR⟩
      unfold bytesB at hb
      by_cases hc : (packB (outL p (s.data.toList.drop a)).2.2).size = 0 ∨ 20000 < (dropsL ss.length ss).length + (packB (outL p (s.data.toList.drop a)).2.2).size
      · rw [if_pos hc] at hb
        exact absurd hb.symm hs0
      · rw [if_neg hc] at hb
        have h2 : dropsL ss.length ss ++ (packB (outL p (s.data.toList.drop a)).2.2).data.toList = dropsL ss.length ss ++ s.data.toList.drop a := by
          rw [← e]
          conv => rhs; rw [← hb]
        have h3 := List.append_cancel_left h2
        by_cases h0 : (outL p (s.data.toList.drop a)).1 = 0
        · exact h0
        · rw [outL_ill h0] at h3
          exact outL_none hp h3
    · rw [if_neg hR] at hb
      exact absurd hb.symm hs0
  · rintro ⟨h0, hR⟩
    obtain ⟨h1, h2⟩ := outL_ok h0
    rw [if_pos hR]
    unfold bytesB
    have hz : (packB (outL p (s.data.toList.drop a)).2.2).size = (s.data.toList.drop a).length := by rw [Lib.size_eq, h1]
    have hp1 : 1 ≤ (s.data.toList.drop a).length := by
      cases hd : s.data.toList.drop a with
      | nil => exact absurd hd h2
      | cons c l => rw [List.length_cons]; omega
    rw [if_neg (by rw [hz]; omega), h1, ← e]
end M
end Go.Proofs.YtephjmlcbpfnaaaGreatDoor
