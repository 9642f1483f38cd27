/-
  A path, its parts and the path above it, with no word of the program.
-/
import Derived.WalkKit
import Derived.Lib.Strings
import Derived.Lib.SplitLaws
namespace Go.Proofs.YtbmbcfnlpbbapagDoor.M

def splitL (d : UInt8) : List UInt8 → List UInt8 → List (List UInt8)
  | cur, [] => [cur]
  | cur, c :: l => if c = d then cur :: splitL d [] l else splitL d (cur ++ [c]) l
def strs (l : List (List UInt8)) : List Value := l.map fun p => Value.string ⟨p.toArray⟩
theorem strs_snoc (l : List (List UInt8)) (p : List UInt8) : strs l ++ [Value.string ⟨p.toArray⟩] = strs (l ++ [p]) := by simp [strs]
theorem splitL_hit {d c : UInt8} {cur l : List UInt8} (h : c = d) : splitL d cur (c :: l) = cur :: splitL d [] l := by rw [splitL, if_pos h]
theorem splitL_miss {d c : UInt8} {cur l : List UInt8} (h : ¬ c = d) : splitL d cur (c :: l) = splitL d (cur ++ [c]) l := by rw [splitL, if_neg h]
theorem cut_mk (s : ByteArray) (i j : Nat) : s.extract i j = ⟨((s.data.toList.drop i).take (j - i)).toArray⟩ := by
  apply ByteArray.ext
  apply Array.toList_inj.1
  rw [Lib.extract_data]
theorem cut_snoc (s : ByteArray) (i k : Nat) (hi : i ≤ k) (hk : k < s.size) : (s.data.toList.drop i).take (k + 1 - i) = (s.data.toList.drop i).take (k - i) ++ [s[k]] := by
  have hl : k < s.data.toList.length := by rw [← Lib.size_eq]; exact hk
  rw [show k + 1 - i = (k - i) + 1 by omega, List.take_succ_eq_append_getElem (by rw [List.length_drop]; omega)]
  congr 2
  rw [List.getElem_drop]
  simp only [show i + (k - i) = k by omega]
  rfl
theorem drop_at (s : ByteArray) (k : Nat) (h : k < s.size) : s.data.toList.drop k = s[k] :: s.data.toList.drop (k + 1) := by
  rw [List.drop_eq_getElem_cons (by simpa using h)]; rfl

/-- The parts behind 'cur' are those of the rest, the first with 'cur' ahead of it. -/
theorem splitL_cur (d : UInt8) : ∀ (l cur : List UInt8), ∃ p ps, splitL d [] l = p :: ps ∧ splitL d cur l = (cur ++ p) :: ps
  | [], cur => ⟨[], [], rfl, by simp [splitL]⟩
  | c :: l, cur => by
    by_cases h : c = d
    · exact ⟨[], splitL d [] l, splitL_hit h, by rw [splitL_hit h]; simp⟩
    · obtain ⟨p, ps, h1, h2⟩ := splitL_cur d l (cur ++ [c])
      obtain ⟨p', ps', h1', h2'⟩ := splitL_cur d l [c]
      rw [h1] at h1'
      obtain ⟨rfl, rfl⟩ := List.cons.inj h1'
      exact ⟨[c] ++ p, ps, by rw [splitL_miss h]; exact h2', by rw [splitL_miss h, h2]; simp⟩
/-- Cutting at every byte d, the library's way. -/
theorem splitK_eq (d : UInt8) : ∀ l : List UInt8, Lib.splitK [d] 0 (Lib.count l [d]) l = splitL d [] l
  | [] => by rw [Lib.count_miss (by simp [Lib.index])]; rfl
  | b :: l => by
    have ih := splitK_eq d l
    by_cases h : b = d
    · subst h
      have hix : Lib.index (b :: l) [b] = 0 := by rw [Lib.index]; simp [List.isPrefixOf]
      rw [Lib.count_cons_eq, splitL_hit rfl, Nat.add_comm 1, Lib.splitK, if_neg (by rw [hix]; simp), hix]
      simp only [Int.toNat_zero, Nat.zero_add, List.take_zero, List.length_singleton, List.drop_succ_cons, List.drop_zero]
      rw [ih]
    · have hp : ([d] : List UInt8).isPrefixOf (b :: l) = false := by simp [List.isPrefixOf, Ne.symm h]
      have hix : Lib.index (b :: l) [d] = if Lib.index l [d] == -1 then -1 else Lib.index l [d] + 1 := by rw [Lib.index, hp]; simp
      obtain ⟨p, ps, h1, h2⟩ := splitL_cur d l [b]
      rw [Lib.count_cons_ne b d l h, splitL_miss h, List.nil_append, h2]
      rw [h1] at ih
      by_cases hm : Lib.index l [d] = -1
      · rw [Lib.count_miss hm, Lib.splitK] at ih ⊢
        obtain ⟨rfl, rfl⟩ := List.cons.inj ih
        rfl
      · have hge := Lib.index_ge l [d]
        obtain ⟨j, hj⟩ : ∃ j : Nat, Lib.index l [d] = j := ⟨(Lib.index l [d]).toNat, by omega⟩
        have hix' : Lib.index (b :: l) [d] = ((j + 1 : Nat) : Int) := by rw [hix, if_neg (fun e => hm (beq_iff_eq.1 e)), hj]; omega
        rw [Lib.count_hit (by simp) hj, Nat.add_comm 1] at ih ⊢
        rw [Lib.splitK, if_neg (by rw [hj]; simp), hj] at ih
        rw [Lib.splitK, if_neg (by rw [hix']; simp; omega), hix']
        simp only [Int.toNat_natCast, Nat.add_zero, List.length_singleton, List.take_succ_cons, List.drop_succ_cons] at ih ⊢
        obtain ⟨e1, e2⟩ := List.cons.inj ih
        rw [e1, e2]; rfl
theorem splitB_eq (s : ByteArray) (d : UInt8) : (Lib.splitB ⟨#[d]⟩ 0 (Lib.countB s ⟨#[d]⟩) s).map Value.string = strs (splitL d [] s.data.toList) := by
  have h := Lib.splitB_data ⟨#[d]⟩ 0 (Lib.countB s ⟨#[d]⟩) s
  rw [show Lib.splitK ([d] : List UInt8) 0 (Lib.countB s ⟨#[d]⟩) s.data.toList = splitL d [] s.data.toList from splitK_eq d _] at h
  unfold strs
  rw [← h, List.map_map]
  rfl
theorem splitB_len (s : ByteArray) (d : UInt8) : Lib.countB s ⟨#[d]⟩ + 1 = (splitL d [] s.data.toList).length := by
  rw [← Lib.splitB_all ⟨#[d]⟩ (Nat.le_refl _) 0 _ s rfl]
  have := congrArg List.length (splitB_eq s d)
  rw [List.length_map] at this
  rw [this]; simp [strs]

def okC (c : UInt8) : Bool := decide (33 ≤ c.toNat) && decide (c.toNat ≤ 126)
/-- A part of a path. -/
def partR (p : List UInt8) : Bool := decide (1 ≤ p.length) && decide (p.length ≤ 60) && !(p == [46]) && !(p == [46, 46]) && p.all okC
/-- A path. -/
def pathR (s : ByteArray) : Bool := decide (s.size ≤ 150) && (splitL 47 [] s.data.toList).all partR
theorem partR_short {p : List UInt8} (h : p.length < 1) : partR p = false := by
  unfold partR; rw [decide_eq_false (show ¬ 1 ≤ p.length by omega)]; rfl
theorem partR_long {p : List UInt8} (h : 60 < p.length) : partR p = false := by
  unfold partR; rw [decide_eq_false (show ¬ p.length ≤ 60 by omega)]; simp
theorem partR_dot : partR [46] = false := by decide
theorem partR_dots : partR [46, 46] = false := by decide
theorem partR_bad {p : List UInt8} {c : UInt8} (hc : c ∈ p) (h : okC c = false) : partR p = false := by
  unfold partR
  rw [List.all_eq_false.2 ⟨c, hc, by simp [h]⟩]; simp
theorem partR_good {p : List UInt8} (h1 : 1 ≤ p.length) (h2 : p.length ≤ 60) (h3 : p ≠ [46]) (h4 : p ≠ [46, 46]) (h : ∀ c ∈ p, okC c = true) : partR p = true := by
  unfold partR
  rw [decide_eq_true h1, decide_eq_true h2, List.all_eq_true.2 h, beq_eq_false_iff_ne.2 h3, beq_eq_false_iff_ne.2 h4]; rfl
theorem okC_lo {c : UInt8} (h : (c.toNat : Int) < 33) : okC c = false := by unfold okC; rw [decide_eq_false (by omega)]; rfl
theorem okC_hi {c : UInt8} (h : 126 < (c.toNat : Int)) : okC c = false := by unfold okC; rw [decide_eq_false (show ¬ c.toNat ≤ 126 by omega)]; simp
theorem okC_yes {c : UInt8} (h : 33 ≤ (c.toNat : Int)) (h' : (c.toNat : Int) ≤ 126) : okC c = true := by unfold okC; rw [decide_eq_true (by omega), decide_eq_true (by omega)]; rfl
theorem pathR_long {s : ByteArray} (h : 150 < s.size) : pathR s = false := by
  unfold pathR; rw [decide_eq_false (by omega)]; rfl
theorem pathR_empty {s : ByteArray} (h : s.size < 1) : pathR s = false := by
  have : s.data.toList = [] := List.length_eq_zero_iff.1 (by rw [← Lib.size_eq]; omega)
  unfold pathR; rw [this]
  simp [splitL, partR]
theorem pathR_bad {s : ByteArray} {p : List UInt8} (hp : p ∈ splitL 47 [] s.data.toList) (h : partR p = false) : pathR s = false := by
  unfold pathR; rw [List.all_eq_false.2 ⟨p, hp, by simp [h]⟩]; simp
theorem pathR_good {s : ByteArray} (h1 : s.size ≤ 150) (h : ∀ p ∈ splitL 47 [] s.data.toList, partR p = true) : pathR s = true := by
  unfold pathR; rw [decide_eq_true h1, List.all_eq_true.2 h]; rfl
theorem pathR_size {s : ByteArray} (h : pathR s = true) : s.size ≤ 150 := by
  unfold pathR at h
  simp only [Bool.and_eq_true, decide_eq_true_eq] at h
  exact h.1
/-- Each part is no longer than the text. -/
theorem splitL_le (d : UInt8) : ∀ (l cur p : List UInt8), p ∈ splitL d cur l → p.length ≤ cur.length + l.length
  | [], cur, p, h => by simp [splitL] at h; subst h; simp
  | c :: l, cur, p, h => by
    by_cases e : c = d
    · rw [splitL_hit e] at h
      rcases List.mem_cons.1 h with rfl | h
      · omega
      · have := splitL_le d l [] p h; simp at this ⊢; omega
    · rw [splitL_miss e] at h
      have := splitL_le d l _ p h; simp at this ⊢; omega
theorem splitL_count (d : UInt8) : ∀ (l cur : List UInt8), (splitL d cur l).length ≤ l.length + 1
  | [], cur => by simp [splitL]
  | c :: l, cur => by
    by_cases e : c = d
    · rw [splitL_hit e]; have := splitL_count d l []; simp; omega
    · rw [splitL_miss e]; have := splitL_count d l (cur ++ [c]); simp at this ⊢; omega
end Go.Proofs.YtbmbcfnlpbbapagDoor.M
