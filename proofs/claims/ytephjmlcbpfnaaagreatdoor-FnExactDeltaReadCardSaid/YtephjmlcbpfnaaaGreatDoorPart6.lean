/-
  Numbers in digits to the base of eight, and the sum of a header, with no word of the program.
-/
import Derived.Test.YtephjmlcbpfnaaaGreatDoorRows
import Derived.WalkKit
import Derived.Lib.Strings
import Derived.WalkSpells
import Derived.WalkLawsBesides
import Derived.OpenShut
import Derived.Lib.SplitLaws
import Derived.Lib.LastIndexByte
import Derived.Lib.ItoaNum
import Derived.Lib.IndexMore
namespace Go.Proofs.YtephjmlcbpfnaaaGreatDoor.M

/-- The last j digits of n to the base of eight, the highest first. -/
def octT : Nat → Nat → List UInt8
  | 0, _ => []
  | j + 1, n => UInt8.ofNat (48 + n / 8 ^ j % 8) :: octT j n
theorem octT_len (j n : Nat) : (octT j n).length = j := by
  induction j with
  | zero => rfl
  | succ j ih => simp [octT, ih]
/-- n in d digits; the empty text, if it has more. -/
def octB (n d : Nat) : ByteArray := if n / 8 ^ d = 0 then ⟨(octT d n).toArray⟩ else ⟨#[]⟩
/-- What Octal tells. -/
def octal (n d : Int) : ByteArray := if 0 ≤ n ∧ 1 ≤ d ∧ d ≤ 20 then octB n.toNat d.toNat else ⟨#[]⟩
theorem octal_no {n d : Int} (h : n < 0 ∨ d < 1 ∨ 20 < d) : octal n d = ⟨#[]⟩ := by unfold octal; rw [if_neg (by omega)]
theorem octal_yes {n d : Nat} (h1 : 1 ≤ d) (h2 : d ≤ 20) : octal n d = octB n d := by unfold octal; rw [if_pos (by omega)]; rfl

def isOct (c : UInt8) : Bool := decide (48 ≤ c.toNat) && decide (c.toNat ≤ 55)
def octV (l : List UInt8) : Nat := l.foldl (fun n c => 8 * n + (c.toNat - 48)) 0
theorem octV_snoc (l : List UInt8) (c : UInt8) : octV (l ++ [c]) = 8 * octV l + (c.toNat - 48) := by simp [octV, List.foldl_append]
theorem octV_lt : ∀ (l : List UInt8), (∀ c ∈ l, isOct c = true) → octV l < 8 ^ l.length := by
  intro l
  have key : ∀ (l : List UInt8) (a k : Nat), a < 8 ^ k → (∀ c ∈ l, isOct c = true) → l.foldl (fun n c => 8 * n + (c.toNat - 48)) a < 8 ^ (k + l.length) := by
    intro l
    induction l with
    | nil => intro a k h _; simpa using h
    | cons c l ih =>
      intro a k h hc
      have h1 := hc c (by simp)
      simp only [isOct, Bool.and_eq_true, decide_eq_true_eq] at h1
      have h2 : 8 * a + (c.toNat - 48) < 8 ^ (k + 1) := by rw [Nat.pow_succ]; omega
      have := ih _ (k + 1) h2 (fun c' hc' => hc c' (by simp [hc']))
      simpa [Nat.add_assoc, Nat.add_comm 1] using this
  have := key l 0 0 (by simp)
  simpa [octV] using this
/-- What OctalRead tells. -/
def octR (s : ByteArray) : Int := if 1 ≤ s.size ∧ s.size ≤ 20 ∧ s.data.toList.all isOct = true then (octV s.data.toList : Int) else -1
theorem octR_size {s : ByteArray} (h : s.size < 1 ∨ 20 < s.size) : octR s = -1 := by unfold octR; rw [if_neg (by omega)]
theorem octR_bad {s : ByteArray} {c : UInt8} (hc : c ∈ s.data.toList) (h : isOct c = false) : octR s = -1 := by
  unfold octR
  rw [if_neg (fun hh => by have := List.all_eq_true.1 hh.2.2 c hc; rw [h] at this; cases this)]
theorem octR_good {s : ByteArray} (h1 : 1 ≤ s.size) (h2 : s.size ≤ 20) (h : ∀ c ∈ s.data.toList, isOct c = true) : octR s = (octV s.data.toList : Int) := by
  unfold octR; rw [if_pos ⟨h1, h2, List.all_eq_true.2 h⟩]
theorem isOct_lo {c : UInt8} (h : (c.toNat : Int) < 48) : isOct c = false := by unfold isOct; rw [decide_eq_false (by omega)]; rfl
theorem isOct_hi {c : UInt8} (h : 55 < (c.toNat : Int)) : isOct c = false := by unfold isOct; rw [decide_eq_false (show ¬ c.toNat ≤ 55 by omega)]; simp
theorem isOct_yes {c : UInt8} (h : 48 ≤ (c.toNat : Int)) (h' : (c.toNat : Int) ≤ 55) : isOct c = true := by unfold isOct; rw [decide_eq_true (by omega), decide_eq_true (by omega)]; rfl

/-- What the byte at a place counts for in a header's sum. -/
def sumC (i : Nat) (c : UInt8) : Nat := if 148 ≤ i ∧ i < 156 then 32 else c.toNat
/-- The sum of a header's first k bytes. -/
def sumK (s : ByteArray) : Nat → Nat
  | 0 => 0
  | k + 1 => sumK s k + sumC k (s.data.toList.getD k 0)
def sumH (s : ByteArray) : Nat := sumK s s.size
theorem sumK_le (s : ByteArray) : ∀ k, sumK s k ≤ 255 * k
  | 0 => Nat.le_refl _
  | k + 1 => by
    have h := sumK_le s k
    have hc : sumC k (s.data.toList.getD k 0) ≤ 255 := by
      unfold sumC
      split
      · omega
      · have := (s.data.toList.getD k 0).toNat_lt; omega
    simp only [sumK]; omega
theorem at_getD {s : ByteArray} {k : Nat} (h : k < s.size) : s.data.toList.getD k 0 = s[k] := by
  have h' : k < s.data.toList.length := by simpa using h
  rw [List.getD_eq_getElem?_getD, List.getElem?_eq_getElem h', Option.getD_some]; rfl
theorem sumK_in {s : ByteArray} {k : Nat} (h1 : 148 ≤ k) (h2 : k < 156) : sumK s (k + 1) = sumK s k + 32 := by
  simp only [sumK, sumC]; rw [if_pos ⟨h1, h2⟩]
theorem sumK_out {s : ByteArray} {k : Nat} (hk : k < s.size) (h : k < 148 ∨ 156 ≤ k) : sumK s (k + 1) = sumK s k + (s[k]).toNat := by
  simp only [sumK, sumC]; rw [if_neg (by omega), at_getD hk]
end Go.Proofs.YtephjmlcbpfnaaaGreatDoor.M

/-
  Digits to the base of eight, as few as may be, with no word of the program.
-/
namespace Go.Proofs.YtephjmlcbpfnaaaGreatDoor.M

/-- L is how many digits n has to the base of eight, one at least. -/
def OctL (n L : Nat) : Prop := 1 ≤ L ∧ n < 8 ^ L ∧ (L = 1 ∨ 8 ^ (L - 1) ≤ n)
theorem OctL.pos {n L : Nat} (h : OctL n L) : 1 ≤ L := h.1
theorem pow8_le {a b : Nat} (h : a ≤ b) : 8 ^ a ≤ 8 ^ b := Nat.pow_le_pow_right (by decide) h
theorem OctL.fits {n L d : Nat} (h : OctL n L) (hd : L ≤ d) : n / 8 ^ d = 0 := Nat.div_eq_of_lt (Nat.lt_of_lt_of_le h.2.1 (pow8_le hd))
theorem OctL.more {n L d : Nat} (h : OctL n L) (h1 : 1 ≤ d) (hd : d < L) : n / 8 ^ d ≠ 0 := by
  rcases h.2.2 with e | e
  · omega
  · have h8 : 8 ^ d ≤ n := Nat.le_trans (pow8_le (by omega)) e
    exact Nat.ne_of_gt (Nat.div_pos h8 (Nat.pow_pos (by decide)))
theorem octT_pad {n L : Nat} (h : n < 8 ^ L) : ∀ k, octT (L + k) n = List.replicate k 48 ++ octT L n
  | 0 => by simp
  | k + 1 => by
    have e : n / 8 ^ (L + k) = 0 := Nat.div_eq_of_lt (Nat.lt_of_lt_of_le h (pow8_le (by omega)))
    rw [show L + (k + 1) = (L + k) + 1 by omega, octT, octT_pad h k, e, List.replicate_succ]
    rfl
theorem OctL.text {n L d : Nat} (h : OctL n L) (hd : L ≤ d) : octB n d = ⟨(List.replicate (d - L) (48 : UInt8) ++ octT L n).toArray⟩ := by
  unfold M.octB
  rw [if_pos (h.fits hd), ← octT_pad h.2.1 (d - L), show L + (d - L) = d by omega]
theorem OctL.text_no {n L d : Nat} (h : OctL n L) (h1 : 1 ≤ d) (hd : d < L) : octB n d = ⟨#[]⟩ := by
  unfold M.octB
  rw [if_neg (h.more h1 hd)]
/-- The last digit that a loop over the digits writes ends them. -/
theorem OctL.last {n j : Nat} (h1 : n / 8 ^ j < 8) (h2 : j = 0 ∨ 8 ≤ n / 8 ^ (j - 1)) : OctL n (j + 1) := by
  refine ⟨by omega, ?_, ?_⟩
  · rw [Nat.pow_succ]
    rw [Nat.div_lt_iff_lt_mul (Nat.pow_pos (by decide))] at h1
    omega
  · rcases h2 with rfl | h2
    · exact .inl rfl
    · rcases Nat.eq_zero_or_pos j with rfl | hj
      · exact .inl rfl
      · right
        rw [Nat.le_div_iff_mul_le (Nat.pow_pos (by decide))] at h2
        rw [show j + 1 - 1 = (j - 1) + 1 by omega, Nat.pow_succ]
        omega
theorem OctL.le {n L : Nat} (h : OctL n L) (hn : n < 8 ^ 21) : L ≤ 21 := by
  rcases h.2.2 with e | e
  · omega
  · have := Nat.lt_of_le_of_lt e hn
    have := (Nat.pow_lt_pow_iff_right (show 1 < 8 by decide)).1 this
    omega
theorem OctL.of (n : Nat) : ∃ L, OctL n L := by
  have key : ∀ k, n < 8 ^ (k + 1) → ∃ L, OctL n L := by
    intro k
    induction k with
    | zero => intro h; exact ⟨1, Nat.le_refl _, h, .inl rfl⟩
    | succ k ih =>
      intro h
      by_cases e : n < 8 ^ (k + 1)
      · exact ih e
      · exact ⟨k + 2, by omega, h, .inr (by simpa using Nat.le_of_not_lt e)⟩
  refine key n ?_
  exact Nat.lt_of_lt_of_le (Nat.lt_pow_self (by decide : 1 < 8)) (pow8_le (by omega))
theorem set_oct (m j n : Nat) (c : UInt8) (hc : c = UInt8.ofNat (48 + n / 8 ^ j % 8)) : (List.replicate (m + 1) (0 : UInt8) ++ octT j n).set m c = List.replicate m 0 ++ octT (j + 1) n := by
  rw [List.set_append_left _ _ (by simp), List.replicate_succ', List.set_append_right _ _ (by simp)]
  simp [octT, hc]
theorem div_step (n j : Nat) : n / 8 ^ j / 8 = n / 8 ^ (j + 1) := by rw [Nat.div_div_eq_div_mul, ← Nat.pow_succ]
end Go.Proofs.YtephjmlcbpfnaaaGreatDoor.M

/-
  A header's bytes, with no word of the program.
-/
namespace Go.Proofs.YtephjmlcbpfnaaaGreatDoor.M
set_option linter.unusedSimpArgs false

def zerosB (n : Nat) : ByteArray := ⟨(List.replicate n 0).toArray⟩
/-- A header's bytes ahead of its sum. -/
def headA (name : ByteArray) (size mode time : Nat) : ByteArray :=
  name ++ zerosB (100 - name.size) ++ octB mode 7 ++ ⟨#[0]⟩ ++ (octB 0 7 ++ ⟨#[0]⟩) ++ (octB 0 7 ++ ⟨#[0]⟩) ++ octB size 11 ++ ⟨#[0]⟩ ++ octB time 11 ++ ⟨#[0]⟩
/-- A header's bytes behind its sum. -/
def headZ (kind : Nat) : ByteArray := (⟨#[UInt8.ofNat kind]⟩ : ByteArray) ++ zerosB 100 ++ ⟨#[117, 115, 116, 97, 114, 0, 48, 48]⟩ ++ zerosB 247
/-- A header. -/
def head (name : ByteArray) (size mode time kind : Nat) : ByteArray :=
  headA name size mode time ++ octB (sumH (headA name size mode time ++ zerosB 8 ++ headZ kind)) 6 ++ ⟨#[0, 32]⟩ ++ headZ kind
/-- What HeaderOf tells. -/
def headerOf (name : ByteArray) (size mode time kind : Int) : ByteArray :=
  if name.size ≤ 100 ∧ (0 ≤ size ∧ size ≤ 8589934591) ∧ (0 ≤ mode ∧ mode ≤ 2097151) ∧ (0 ≤ time ∧ time ≤ 8589934591) ∧ (0 ≤ kind ∧ kind ≤ 255) then head name size.toNat mode.toNat time.toNat kind.toNat else ⟨#[]⟩
theorem octB_size (n d : Nat) : (octB n d).size ≤ d := by
  unfold octB
  split
  · rw [Lib.size_eq]; simp [octT_len]
  · exact Nat.zero_le _
theorem zerosB_size (n : Nat) : (zerosB n).size = n := by rw [Lib.size_eq]; simp [zerosB]
theorem octB_full {n d : Nat} (h : n < 8 ^ d) : octB n d = ⟨(octT d n).toArray⟩ := by
  unfold octB; rw [if_pos (Nat.div_eq_of_lt h)]
theorem octB_none {n d : Nat} (h : 8 ^ d ≤ n) : octB n d = ⟨#[]⟩ := by
  unfold octB; rw [if_neg (Nat.ne_of_gt (Nat.div_pos h (Nat.pow_pos (by decide))))]
/-- Octal of so many digits is empty just where the number has more, or is none. -/
theorem octal_ok {n : Int} {d : Nat} (h0 : 0 ≤ n) (h1 : n < (8 ^ d : Nat)) (hd : 1 ≤ d) (hd' : d ≤ 20) : octal n d = ⟨(octT d n.toNat).toArray⟩ := by
  unfold octal
  rw [if_pos (by omega)]
  exact octB_full (by show n.toNat < 8 ^ (d : Int).toNat; rw [Int.toNat_natCast]; omega)
theorem octal_bad {n : Int} {d : Nat} (h : n < 0 ∨ ((8 ^ d : Nat) : Int) ≤ n) (hd : 1 ≤ d) (hd' : d ≤ 20) : octal n d = ⟨#[]⟩ := by
  rcases h with h | h
  · exact octal_no (.inl h)
  · have hp : 0 < 8 ^ d := Nat.pow_pos (by decide)
    obtain ⟨p, e⟩ : ∃ p, p = 8 ^ d := ⟨_, rfl⟩
    rw [← e] at h hp
    unfold octal
    rw [if_pos (by omega)]
    exact octB_none (by rw [Int.toNat_natCast, ← e]; omega)

/-- L with these bytes from a place on. -/
def over (L : List UInt8) (o : Nat) (X : List UInt8) : List UInt8 := L.take o ++ X ++ L.drop (o + X.length)
theorem over_len {L X : List UInt8} {o : Nat} (h : o + X.length ≤ L.length) : (over L o X).length = L.length := by
  unfold over; simp; omega
theorem over_all {L X : List UInt8} (h : L.length = X.length) : over L 0 X = X := by
  unfold over
  rw [List.take_zero, List.nil_append, List.drop_eq_nil_of_le (by omega), List.append_nil]
theorem over_mid {A Z X B : List UInt8} {o : Nat} (ho : A.length = o) (h : Z.length = X.length) : over (A ++ Z ++ B) o X = A ++ X ++ B := by
  subst ho
  unfold over
  have e : (A ++ Z ++ B).drop (A.length + X.length) = B := by rw [← h, ← List.length_append, List.drop_left]
  rw [e, show A ++ Z ++ B = A ++ (Z ++ B) from List.append_assoc _ _ _, List.take_left]
theorem zer_split (a b : Nat) : List.replicate (a + b) (0 : UInt8) = List.replicate a 0 ++ List.replicate b 0 := List.replicate_append_replicate.symm
/-- What the program's header holds before its sum is put in. -/
def pre (nm mo no sz tm : List UInt8) (kd : UInt8) : List UInt8 :=
  over ((over (over (over (over (over (over (List.replicate 512 0) 0 nm) 100 mo) 108 no) 116 no) 124 sz) 136 tm).set 156 kd) 257 [117, 115, 116, 97, 114, 0, 48, 48]
/-- Ahead of the sum. -/
def preA (nm mo no sz tm : List UInt8) : List UInt8 := nm ++ List.replicate (100 - nm.length) 0 ++ mo ++ [0] ++ no ++ [0] ++ no ++ [0] ++ sz ++ [0] ++ tm ++ [0]
/-- Behind the sum. -/
def preZ (kd : UInt8) : List UInt8 := [kd] ++ List.replicate 100 0 ++ [117, 115, 116, 97, 114, 0, 48, 48] ++ List.replicate 247 0
theorem preA_len {nm mo no sz tm : List UInt8} (h0 : nm.length ≤ 100) (h1 : mo.length = 7) (h2 : no.length = 7) (h3 : sz.length = 11) (h4 : tm.length = 11) : (preA nm mo no sz tm).length = 148 := by
  unfold preA; simp only [List.length_append, List.length_replicate, List.length_singleton]; omega
theorem preZ_len (kd : UInt8) : (preZ kd).length = 356 := by
  unfold preZ; simp only [List.length_append, List.length_replicate, List.length_cons, List.length_nil]
theorem pre_eq {nm mo no sz tm : List UInt8} {kd : UInt8} (h0 : nm.length ≤ 100) (h1 : mo.length = 7) (h2 : no.length = 7) (h3 : sz.length = 11) (h4 : tm.length = 11) :
    pre nm mo no sz tm kd = preA nm mo no sz tm ++ List.replicate 8 0 ++ preZ kd := by
  unfold pre
  have e0 : over (List.replicate 512 0) 0 nm = nm ++ List.replicate (100 - nm.length) 0 ++ List.replicate 7 0 ++ List.replicate 405 0 := by
    rw [show (512 : Nat) = nm.length + ((100 - nm.length) + (7 + 405)) by omega, zer_split, zer_split, zer_split]
    rw [show ∀ P Q : List UInt8, over (P ++ Q) 0 nm = over ([] ++ P ++ Q) 0 nm from fun _ _ => rfl, over_mid (o := 0) rfl List.length_replicate]
    simp only [List.nil_append, List.append_assoc]
  rw [e0]
  rw [over_mid (by simp only [List.length_append, List.length_replicate, List.length_cons, List.length_nil]; omega) (by rw [List.length_replicate, h1])]
  rw [show (405 : Nat) = 1 + (7 + 397) by rfl, zer_split 1, zer_split 7]
  rw [show ∀ A B : List UInt8, A ++ (List.replicate 1 0 ++ (List.replicate 7 0 ++ B)) = (A ++ [0]) ++ List.replicate 7 0 ++ B from fun A B => by simp only [List.append_assoc]; rfl]
  rw [over_mid (by simp only [List.length_append, List.length_replicate, List.length_cons, List.length_nil]; omega) (by rw [List.length_replicate, h2])]
  rw [show (397 : Nat) = 1 + (7 + 389) by rfl, zer_split 1, zer_split 7]
  rw [show ∀ A B : List UInt8, A ++ (List.replicate 1 0 ++ (List.replicate 7 0 ++ B)) = (A ++ [0]) ++ List.replicate 7 0 ++ B from fun A B => by simp only [List.append_assoc]; rfl]
  rw [over_mid (by simp only [List.length_append, List.length_replicate, List.length_cons, List.length_nil]; omega) (by rw [List.length_replicate, h2])]
  rw [show (389 : Nat) = 1 + (11 + 377) by rfl, zer_split 1, zer_split 11]
  rw [show ∀ A B : List UInt8, A ++ (List.replicate 1 0 ++ (List.replicate 11 0 ++ B)) = (A ++ [0]) ++ List.replicate 11 0 ++ B from fun A B => by simp only [List.append_assoc]; rfl]
  rw [over_mid (by simp only [List.length_append, List.length_replicate, List.length_cons, List.length_nil]; omega) (by rw [List.length_replicate, h3])]
  rw [show (377 : Nat) = 1 + (11 + 365) by rfl, zer_split 1, zer_split 11]
  rw [show ∀ A B : List UInt8, A ++ (List.replicate 1 0 ++ (List.replicate 11 0 ++ B)) = (A ++ [0]) ++ List.replicate 11 0 ++ B from fun A B => by simp only [List.append_assoc]; rfl]
  rw [over_mid (by simp only [List.length_append, List.length_replicate, List.length_cons, List.length_nil]; omega) (by rw [List.length_replicate, h4])]
  rw [show (365 : Nat) = 1 + (8 + (1 + 355)) by rfl, zer_split 1, zer_split 8, zer_split 1]
  rw [show ∀ A B : List UInt8, A ++ (List.replicate 1 0 ++ (List.replicate 8 0 ++ (List.replicate 1 0 ++ B))) = (A ++ [0] ++ List.replicate 8 0) ++ ([0] ++ B) from fun A B => by simp only [List.append_assoc]; rfl]
  rw [List.set_append_right _ _ (by simp only [List.length_append, List.length_replicate, List.length_cons, List.length_nil]; omega)]
  rw [show ∀ A : List UInt8, A.length = 156 → ([0] ++ List.replicate 355 0 : List UInt8).set (156 - A.length) kd = [kd] ++ List.replicate 355 0 from fun A h => by rw [h]; rfl]
  · rw [show (355 : Nat) = 100 + (8 + 247) by rfl, zer_split 100, zer_split 8]
    rw [show ∀ A B : List UInt8, A ++ ([kd] ++ (List.replicate 100 0 ++ (List.replicate 8 0 ++ B))) = (A ++ [kd] ++ List.replicate 100 0) ++ List.replicate 8 0 ++ B from fun A B => by simp only [List.append_assoc]]
    rw [over_mid (by simp only [List.length_append, List.length_replicate, List.length_cons, List.length_nil]; omega) (by rw [List.length_replicate]; rfl)]
    unfold preA preZ
    simp only [List.append_assoc]
  · simp only [List.length_append, List.length_replicate, List.length_cons, List.length_nil]; omega
theorem post_eq {nm mo no sz tm sm : List UInt8} {kd : UInt8} (h0 : nm.length ≤ 100) (h1 : mo.length = 7) (h2 : no.length = 7) (h3 : sz.length = 11) (h4 : tm.length = 11) (h5 : sm.length = 8) :
    over (pre nm mo no sz tm kd) 148 sm = preA nm mo no sz tm ++ sm ++ preZ kd := by
  rw [pre_eq h0 h1 h2 h3 h4]
  exact over_mid (preA_len h0 h1 h2 h3 h4) (by rw [List.length_replicate, h5])
theorem ba_L (a b : List UInt8) : (⟨a.toArray⟩ : ByteArray) ++ ⟨b.toArray⟩ = ⟨(a ++ b).toArray⟩ := by
  apply ByteArray.ext
  simp [ByteArray.data_append]
theorem ba_toL (s : ByteArray) : s = ⟨s.data.toList.toArray⟩ := by
  apply ByteArray.ext; simp
/-- A header of what fits, as a list. -/
theorem head_L {name : ByteArray} {size mode time kind : Nat} (h1 : mode < 8 ^ 7) (h2 : size < 8 ^ 11) (h3 : time < 8 ^ 11) :
    headA name size mode time = ⟨(preA name.data.toList (octT 7 mode) (octT 7 0) (octT 11 size) (octT 11 time)).toArray⟩ ∧ headZ kind = ⟨(preZ (UInt8.ofNat kind)).toArray⟩ := by
  constructor
  · unfold headA preA zerosB
    rw [octB_full h1, octB_full h2, octB_full h3, octB_full (n := 0) (by decide), Lib.size_eq]
    conv => lhs; rw [ba_toL name]
    simp only [ba_L, List.append_assoc]
  · unfold headZ preZ zerosB
    simp only [ba_L, List.append_assoc]
theorem head_sum_lt {L : List UInt8} (h : L.length = 512) : sumH ⟨L.toArray⟩ < 8 ^ 6 := by
  have := sumK_le ⟨L.toArray⟩ (ByteArray.size ⟨L.toArray⟩)
  unfold sumH
  rw [Lib.size_eq] at this ⊢
  simp only [h] at this ⊢
  omega
/-- What the program's header holds in the end. -/
theorem head_final {name : ByteArray} {size mode time kind : Nat} (h0 : name.size ≤ 100) (h1 : mode < 8 ^ 7) (h2 : size < 8 ^ 11) (h3 : time < 8 ^ 11) {P : List UInt8}
    (hP : P = pre name.data.toList (octT 7 mode) (octT 7 0) (octT 11 size) (octT 11 time) (UInt8.ofNat kind)) :
    head name size mode time kind = ⟨(over P 148 (octB (sumH ⟨P.toArray⟩) 6 ++ ⟨#[0, 32]⟩ : ByteArray).data.toList).toArray⟩ := by
  have hn : name.data.toList.length ≤ 100 := by rw [← Lib.size_eq]; exact h0
  have he := pre_eq (kd := UInt8.ofNat kind) hn (octT_len 7 mode) (octT_len 7 0) (octT_len 11 size) (octT_len 11 time)
  have hl : P.length = 512 := by
    rw [hP, he, List.length_append, List.length_append, preA_len hn (octT_len _ _) (octT_len _ _) (octT_len _ _) (octT_len _ _), preZ_len, List.length_replicate]
  have hq := head_sum_lt hl
  unfold head
  rw [(head_L (kind := kind) h1 h2 h3).1, (head_L (name := name) (kind := kind) h1 h2 h3).2]
  have e1 : (⟨(preA name.data.toList (octT 7 mode) (octT 7 0) (octT 11 size) (octT 11 time)).toArray⟩ : ByteArray) ++ zerosB 8 ++ ⟨(preZ (UInt8.ofNat kind)).toArray⟩ = ⟨P.toArray⟩ := by
    rw [hP, he]; unfold zerosB; rw [ba_L, ba_L]
  rw [e1]
  generalize sumH ⟨P.toArray⟩ = q at hq
  rw [octB_full hq]
  rw [show (⟨#[0, 32]⟩ : ByteArray) = ⟨[(0 : UInt8), 32].toArray⟩ from rfl, ba_L (octT 6 q), hP]
  rw [show ∀ l : List UInt8, (⟨l.toArray⟩ : ByteArray).data.toList = l from fun l => by simp]
  rw [post_eq hn (octT_len _ _) (octT_len _ _) (octT_len _ _) (octT_len _ _) (by simp [octT_len])]
  simp only [ba_L, List.append_assoc]
end Go.Proofs.YtephjmlcbpfnaaaGreatDoor.M

/-
  A file as data, its cells, and rows of files in memory.
-/
namespace Go.Proofs.YtephjmlcbpfnaaaGreatDoor.M
open Go.RowKit

structure FileD where
  path : ByteArray
  dir : Bool
  mode : Int
  time : Int
  data : ByteArray

def fval (f : FileD) : Value := .agg #[.string f.path, .bool f.dir, .int .i64 f.mode, .int .i64 f.time, .string f.data]
def fcells (f : FileD) : List Value := [.string f.path, .bool f.dir, .int .i64 f.mode, .int .i64 f.time, .string f.data]
/-- A file whose numbers are of int64 and whose texts are of a size that can be. -/
def fok (f : FileD) : Prop := f.path.size ≤ maxLen ∧ f.data.size ≤ maxLen ∧ -9223372036854775808 ≤ f.mode ∧ f.mode ≤ 9223372036854775807 ∧ -9223372036854775808 ≤ f.time ∧ f.time ≤ 9223372036854775807

/-- The files lie in a row from a place on. -/
def FilesAt (w : World) (b off : Nat) (fs : List FileD) : Prop :=
  ∀ i (h : i < fs.length), w.cell? ⟨b, off + i * 5, none⟩ = some (.string fs[i].path) ∧ w.cell? ⟨b, off + i * 5 + 1, none⟩ = some (.bool fs[i].dir) ∧ w.cell? ⟨b, off + i * 5 + 2, none⟩ = some (.int .i64 fs[i].mode) ∧
    w.cell? ⟨b, off + i * 5 + 3, none⟩ = some (.int .i64 fs[i].time) ∧ w.cell? ⟨b, off + i * 5 + 4, none⟩ = some (.string fs[i].data)
/-- A slice of files. -/
def Files (w : World) (a : Option Addr) (len cap : Nat) (fs : List FileD) : Prop :=
  len = fs.length ∧ len ≤ cap ∧ cap ≤ maxLen ∧ (0 < len → ∃ b off, a = some ⟨b, off, none⟩ ∧ FilesAt w b off fs)
theorem Files.below {w w' : World} {a : Option Addr} {len cap : Nat} {fs : List FileD} (h : Files w a len cap fs) (hb : Below w.heap.size w w') : Files w' a len cap fs := by
  obtain ⟨h1, h2, h3, h4⟩ := h
  refine ⟨h1, h2, h3, fun hl => ?_⟩
  obtain ⟨b, off, rfl, hf⟩ := h4 hl
  refine ⟨b, off, rfl, fun i hi => ?_⟩
  obtain ⟨c0, c1, c2, c3, c4⟩ := hf i hi
  have hlt : b < w.heap.size := World.block_lt_of_cell? w _ c0
  refine ⟨?_, ?_, ?_, ?_, ?_⟩
  · rw [hb.cell (p := ⟨b, off + i * 5, none⟩) hlt]; exact c0
  · rw [hb.cell (p := ⟨b, off + i * 5 + 1, none⟩) hlt]; exact c1
  · rw [hb.cell (p := ⟨b, off + i * 5 + 2, none⟩) hlt]; exact c2
  · rw [hb.cell (p := ⟨b, off + i * 5 + 3, none⟩) hlt]; exact c3
  · rw [hb.cell (p := ⟨b, off + i * 5 + 4, none⟩) hlt]; exact c4

def feq (a b : FileD) : Bool := a.path.toList == b.path.toList && a.dir == b.dir && a.mode == b.mode && a.time == b.time && a.data.toList == b.data.toList
theorem bytes_eq {a b : ByteArray} (h : a.toList = b.toList) : a = b := by
  rw [ByteArray.toList_eq, ByteArray.toList_eq] at h
  apply ByteArray.ext
  exact Array.toList_inj.1 h
theorem feq_iff {a b : FileD} : feq a b = true ↔ a = b := by
  unfold feq
  constructor
  · intro h
    simp only [Bool.and_eq_true, beq_iff_eq] at h
    obtain ⟨⟨⟨⟨h1, h2⟩, h3⟩, h4⟩, h5⟩ := h
    cases a; cases b
    simp only at h1 h2 h3 h4 h5
    rw [bytes_eq h1, bytes_eq h5, h2, h3, h4]
  · rintro rfl; simp

/-- A block of N cells that may be written. -/
def Row (w : World) (H : Nat) (T : TypeId) (N : Nat) : Prop := ∃ cur, w.heap[H]? = some (.cells cur T (0, 0)) ∧ cur.size = N
theorem Row.cell {w : World} {H : Nat} {T : TypeId} {N i : Nat} (h : Row w H T N) (hi : i < N) : ∃ v, w.cell? ⟨H, i, none⟩ = some v := by
  obtain ⟨cur, h1, rfl⟩ := h
  exact ⟨cur[i], by simp [World.cell?, h1, hi]⟩
theorem Row.free {w : World} {H : Nat} {T : TypeId} {N : Nat} (h : Row w H T N) (i : Nat) : w.frozen? ⟨H, i, none⟩ = false := by
  obtain ⟨cur, h1, rfl⟩ := h
  simp [World.frozen?, h1]
theorem Row.lt {w : World} {H : Nat} {T : TypeId} {N : Nat} (h : Row w H T N) : H < w.heap.size := by
  obtain ⟨cur, h1, _⟩ := h
  exact (Array.getElem?_eq_some_iff.1 h1).1
theorem Row.of_block {w w' : World} {H : Nat} {T : TypeId} {N : Nat} (h : Row w H T N) (hb : w'.heap[H]? = w.heap[H]?) : Row w' H T N := by
  obtain ⟨cur, h1, h2⟩ := h
  exact ⟨cur, hb.trans h1, h2⟩
theorem Row.setCell {w : World} {H : Nat} {T : TypeId} {N : Nat} (h : Row w H T N) (i : Nat) (v : Value) : Row (w.setCell ⟨H, i, none⟩ v) H T N := by
  obtain ⟨cur, h1, h2⟩ := h
  refine ⟨cur.setIfInBounds i v, ?_, by simpa using h2⟩
  simp only [World.setCell, Array.getElem?_modify, h1]
  simp
theorem Row.set5 {w : World} {H : Nat} {T : TypeId} {N : Nat} (h : Row w H T N) (o : Nat) (v0 v1 v2 v3 v4 : Value) :
    Row (((((w.setCell ⟨H, o, none⟩ v0).setCell ⟨H, o + 1, none⟩ v1).setCell ⟨H, o + 2, none⟩ v2).setCell ⟨H, o + 3, none⟩ v3).setCell ⟨H, o + 4, none⟩ v4) H T N :=
  ((((h.setCell _ _).setCell _ _).setCell _ _).setCell _ _).setCell _ _

theorem take_snoc_get {fs : List FileD} {k : Nat} {f : FileD} (h : fs[k]? = some f) : fs.take (k + 1) = fs.take k ++ [f] := by
  obtain ⟨hk, hf⟩ := List.getElem?_eq_some_iff.1 h
  rw [List.take_succ_eq_append_getElem hk, hf]
/-- One file more at the row's end. -/
theorem FilesAt.push {w : World} {H off k : Nat} {T : TypeId} {N : Nat} {gs : List FileD} {f : FileD} (h : FilesAt w H off gs) (hr : Row w H T N) (hg : gs.length = k) (hN : off + k * 5 + 4 < N) :
    FilesAt (((((w.setCell ⟨H, off + k * 5, none⟩ (.string f.path)).setCell ⟨H, off + k * 5 + 1, none⟩ (.bool f.dir)).setCell ⟨H, off + k * 5 + 2, none⟩ (.int .i64 f.mode)).setCell ⟨H, off + k * 5 + 3, none⟩ (.int .i64 f.time)).setCell ⟨H, off + k * 5 + 4, none⟩ (.string f.data)) H off (gs ++ [f]) := by
  have other : ∀ (W : World) (o o' : Nat) (v : Value), o ≠ o' → (W.setCell ⟨H, o, none⟩ v).cell? ⟨H, o', none⟩ = W.cell? ⟨H, o', none⟩ := fun W o o' v hne => World.cell?_setCell_other _ _ _ _ (by intro e; simp only [Addr.mk.injEq] at e; omega)
  have same : ∀ (W : World) (o : Nat) (v : Value), Row W H T N → o < N → (W.setCell ⟨H, o, none⟩ v).cell? ⟨H, o, none⟩ = some v := fun W o v hW ho => by
    obtain ⟨u, hu⟩ := hW.cell ho
    exact World.cell?_setCell_same _ _ _ hu
  intro i hi
  rw [List.length_append, List.length_singleton, hg] at hi
  by_cases e : i = k
  · subst e
    have hf : (gs ++ [f])[i]'(by simp; omega) = f := by rw [List.getElem_append_right (by omega)]; simp
    rw [hf]
    refine ⟨?_, ?_, ?_, ?_, ?_⟩
    · rw [other _ _ _ _ (by omega), other _ _ _ _ (by omega), other _ _ _ _ (by omega), other _ _ _ _ (by omega)]
      exact same _ _ _ hr (by omega)
    · rw [other _ _ _ _ (by omega), other _ _ _ _ (by omega), other _ _ _ _ (by omega)]
      exact same _ _ _ (hr.setCell _ _) (by omega)
    · rw [other _ _ _ _ (by omega), other _ _ _ _ (by omega)]
      exact same _ _ _ ((hr.setCell _ _).setCell _ _) (by omega)
    · rw [other _ _ _ _ (by omega)]
      exact same _ _ _ (((hr.setCell _ _).setCell _ _).setCell _ _) (by omega)
    · exact same _ _ _ ((((hr.setCell _ _).setCell _ _).setCell _ _).setCell _ _) (by omega)
  · have hik : i < gs.length := by omega
    have hf : (gs ++ [f])[i]'(by simp; omega) = gs[i] := List.getElem_append_left hik
    rw [hf]
    obtain ⟨c0, c1, c2, c3, c4⟩ := h i hik
    refine ⟨?_, ?_, ?_, ?_, ?_⟩
    · rw [other _ _ _ _ (by omega), other _ _ _ _ (by omega), other _ _ _ _ (by omega), other _ _ _ _ (by omega), other _ _ _ _ (by omega)]; exact c0
    · rw [other _ _ _ _ (by omega), other _ _ _ _ (by omega), other _ _ _ _ (by omega), other _ _ _ _ (by omega), other _ _ _ _ (by omega)]; exact c1
    · rw [other _ _ _ _ (by omega), other _ _ _ _ (by omega), other _ _ _ _ (by omega), other _ _ _ _ (by omega), other _ _ _ _ (by omega)]; exact c2
    · rw [other _ _ _ _ (by omega), other _ _ _ _ (by omega), other _ _ _ _ (by omega), other _ _ _ _ (by omega), other _ _ _ _ (by omega)]; exact c3
    · rw [other _ _ _ _ (by omega), other _ _ _ _ (by omega), other _ _ _ _ (by omega), other _ _ _ _ (by omega), other _ _ _ _ (by omega)]; exact c4
theorem FilesAt.of_block {w w' : World} {H off : Nat} {fs : List FileD} (h : FilesAt w H off fs) (hb : w'.heap[H]? = w.heap[H]?) : FilesAt w' H off fs := by
  intro i hi
  obtain ⟨c0, c1, c2, c3, c4⟩ := h i hi
  have e : ∀ o, w'.cell? ⟨H, o, none⟩ = w.cell? ⟨H, o, none⟩ := fun o => World.cell?_of_block (w := w) hb
  exact ⟨(e _).trans c0, (e _).trans c1, (e _).trans c2, (e _).trans c3, (e _).trans c4⟩
end Go.Proofs.YtephjmlcbpfnaaaGreatDoor.M

/-
  A path, its parts and the path above it, with no word of the program.
-/
namespace Go.Proofs.YtephjmlcbpfnaaaGreatDoor.M

def splitL (d : UInt8) : List UInt8 → List UInt8 → List (List UInt8)
  | cur, [] => [cur]
  | cur, c :: l => if c = d then cur :: splitL d [] l else splitL d (cur ++ [c]) l
def strs (l : List (List UInt8)) : List Value := l.map fun p => Value.string ⟨p.toArray⟩
theorem strs_snoc (l : List (List UInt8)) (p : List UInt8) : strs l ++ [Value.string ⟨p.toArray⟩] = strs (l ++ [p]) := by simp [strs]
theorem splitL_hit {d c : UInt8} {cur l : List UInt8} (h : c = d) : splitL d cur (c :: l) = cur :: splitL d [] l := by rw [splitL, if_pos h]
theorem splitL_miss {d c : UInt8} {cur l : List UInt8} (h : ¬ c = d) : splitL d cur (c :: l) = splitL d (cur ++ [c]) l := by rw [splitL, if_neg h]
theorem cut_mk (s : ByteArray) (i j : Nat) : s.extract i j = ⟨((s.data.toList.drop i).take (j - i)).toArray⟩ := by
  apply ByteArray.ext
  apply Array.toList_inj.1
  rw [Lib.extract_data]
theorem cut_snoc (s : ByteArray) (i k : Nat) (hi : i ≤ k) (hk : k < s.size) : (s.data.toList.drop i).take (k + 1 - i) = (s.data.toList.drop i).take (k - i) ++ [s[k]] := by
  have hl : k < s.data.toList.length := by rw [← Lib.size_eq]; exact hk
  rw [show k + 1 - i = (k - i) + 1 by omega, List.take_succ_eq_append_getElem (by rw [List.length_drop]; omega)]
  congr 2
  rw [List.getElem_drop]
  simp only [show i + (k - i) = k by omega]
  rfl
theorem drop_at (s : ByteArray) (k : Nat) (h : k < s.size) : s.data.toList.drop k = s[k] :: s.data.toList.drop (k + 1) := by
  rw [List.drop_eq_getElem_cons (by simpa using h)]; rfl

/-- The parts behind 'cur' are those of the rest, the first with 'cur' ahead of it. -/
theorem splitL_cur (d : UInt8) : ∀ (l cur : List UInt8), ∃ p ps, splitL d [] l = p :: ps ∧ splitL d cur l = (cur ++ p) :: ps
  | [], cur => ⟨[], [], rfl, by simp [splitL]⟩
  | c :: l, cur => by
    by_cases h : c = d
    · exact ⟨[], splitL d [] l, splitL_hit h, by rw [splitL_hit h]; simp⟩
    · obtain ⟨p, ps, h1, h2⟩ := splitL_cur d l (cur ++ [c])
      obtain ⟨p', ps', h1', h2'⟩ := splitL_cur d l [c]
      rw [h1] at h1'
      obtain ⟨rfl, rfl⟩ := List.cons.inj h1'
      exact ⟨[c] ++ p, ps, by rw [splitL_miss h]; exact h2', by rw [splitL_miss h, h2]; simp⟩
/-- Cutting at every byte d, the library's way. -/
theorem splitK_eq (d : UInt8) : ∀ l : List UInt8, Lib.splitK [d] 0 (Lib.count l [d]) l = splitL d [] l
  | [] => by rw [Lib.count_miss (by simp [Lib.index])]; rfl
  | b :: l => by
    have ih := splitK_eq d l
    by_cases h : b = d
    · subst h
      have hix : Lib.index (b :: l) [b] = 0 := by rw [Lib.index]; simp [List.isPrefixOf]
      rw [Lib.count_cons_eq, splitL_hit rfl, Nat.add_comm 1, Lib.splitK, if_neg (by rw [hix]; simp), hix]
      simp only [Int.toNat_zero, Nat.zero_add, List.take_zero, List.length_singleton, List.drop_succ_cons, List.drop_zero]
      rw [ih]
    · have hp : ([d] : List UInt8).isPrefixOf (b :: l) = false := by simp [List.isPrefixOf, Ne.symm h]
      have hix : Lib.index (b :: l) [d] = if Lib.index l [d] == -1 then -1 else Lib.index l [d] + 1 := by rw [Lib.index, hp]; simp
      obtain ⟨p, ps, h1, h2⟩ := splitL_cur d l [b]
      rw [Lib.count_cons_ne b d l h, splitL_miss h, List.nil_append, h2]
      rw [h1] at ih
      by_cases hm : Lib.index l [d] = -1
      · rw [Lib.count_miss hm, Lib.splitK] at ih ⊢
        obtain ⟨rfl, rfl⟩ := List.cons.inj ih
        rfl
      · have hge := Lib.index_ge l [d]
        obtain ⟨j, hj⟩ : ∃ j : Nat, Lib.index l [d] = j := ⟨(Lib.index l [d]).toNat, by omega⟩
        have hix' : Lib.index (b :: l) [d] = ((j + 1 : Nat) : Int) := by rw [hix, if_neg (fun e => hm (beq_iff_eq.1 e)), hj]; omega
        rw [Lib.count_hit (by simp) hj, Nat.add_comm 1] at ih ⊢
        rw [Lib.splitK, if_neg (by rw [hj]; simp), hj] at ih
        rw [Lib.splitK, if_neg (by rw [hix']; simp; omega), hix']
        simp only [Int.toNat_natCast, Nat.add_zero, List.length_singleton, List.take_succ_cons, List.drop_succ_cons] at ih ⊢
        obtain ⟨e1, e2⟩ := List.cons.inj ih
        rw [e1, e2]; rfl
theorem splitB_eq (s : ByteArray) (d : UInt8) : (Lib.splitB ⟨#[d]⟩ 0 (Lib.countB s ⟨#[d]⟩) s).map Value.string = strs (splitL d [] s.data.toList) := by
  have h := Lib.splitB_data ⟨#[d]⟩ 0 (Lib.countB s ⟨#[d]⟩) s
  rw [show Lib.splitK ([d] : List UInt8) 0 (Lib.countB s ⟨#[d]⟩) s.data.toList = splitL d [] s.data.toList from splitK_eq d _] at h
  unfold strs
  rw [← h, List.map_map]
  rfl
theorem splitB_len (s : ByteArray) (d : UInt8) : Lib.countB s ⟨#[d]⟩ + 1 = (splitL d [] s.data.toList).length := by
  rw [← Lib.splitB_all ⟨#[d]⟩ (Nat.le_refl _) 0 _ s rfl]
  have := congrArg List.length (splitB_eq s d)
  rw [List.length_map] at this
  rw [this]; simp [strs]

def okC (c : UInt8) : Bool := decide (33 ≤ c.toNat) && decide (c.toNat ≤ 126)
/-- A part of a path. -/
def partR (p : List UInt8) : Bool := decide (1 ≤ p.length) && decide (p.length ≤ 60) && !(p == [46]) && !(p == [46, 46]) && p.all okC
/-- A path. -/
def pathR (s : ByteArray) : Bool := decide (s.size ≤ 150) && (splitL 47 [] s.data.toList).all partR
theorem partR_short {p : List UInt8} (h : p.length < 1) : partR p = false := by
  unfold partR; rw [decide_eq_false (show ¬ 1 ≤ p.length by omega)]; rfl
theorem partR_long {p : List UInt8} (h : 60 < p.length) : partR p = false := by
  unfold partR; rw [decide_eq_false (show ¬ p.length ≤ 60 by omega)]; simp
theorem partR_dot : partR [46] = false := by decide
theorem partR_dots : partR [46, 46] = false := by decide
theorem partR_bad {p : List UInt8} {c : UInt8} (hc : c ∈ p) (h : okC c = false) : partR p = false := by
  unfold partR
  rw [List.all_eq_false.2 ⟨c, hc, by simp [h]⟩]; simp
theorem partR_good {p : List UInt8} (h1 : 1 ≤ p.length) (h2 : p.length ≤ 60) (h3 : p ≠ [46]) (h4 : p ≠ [46, 46]) (h : ∀ c ∈ p, okC c = true) : partR p = true := by
  unfold partR
  rw [decide_eq_true h1, decide_eq_true h2, List.all_eq_true.2 h, beq_eq_false_iff_ne.2 h3, beq_eq_false_iff_ne.2 h4]; rfl
theorem okC_lo {c : UInt8} (h : (c.toNat : Int) < 33) : okC c = false := by unfold okC; rw [decide_eq_false (by omega)]; rfl
theorem okC_hi {c : UInt8} (h : 126 < (c.toNat : Int)) : okC c = false := by unfold okC; rw [decide_eq_false (show ¬ c.toNat ≤ 126 by omega)]; simp
theorem okC_yes {c : UInt8} (h : 33 ≤ (c.toNat : Int)) (h' : (c.toNat : Int) ≤ 126) : okC c = true := by unfold okC; rw [decide_eq_true (by omega), decide_eq_true (by omega)]; rfl
theorem pathR_long {s : ByteArray} (h : 150 < s.size) : pathR s = false := by
  unfold pathR; rw [decide_eq_false (by omega)]; rfl
theorem pathR_empty {s : ByteArray} (h : s.size < 1) : pathR s = false := by
  have : s.data.toList = [] := List.length_eq_zero_iff.1 (by rw [← Lib.size_eq]; omega)
  unfold pathR; rw [this]
  simp [splitL, partR]
theorem pathR_bad {s : ByteArray} {p : List UInt8} (hp : p ∈ splitL 47 [] s.data.toList) (h : partR p = false) : pathR s = false := by
  unfold pathR; rw [List.all_eq_false.2 ⟨p, hp, by simp [h]⟩]; simp
theorem pathR_good {s : ByteArray} (h1 : s.size ≤ 150) (h : ∀ p ∈ splitL 47 [] s.data.toList, partR p = true) : pathR s = true := by
  unfold pathR; rw [decide_eq_true h1, List.all_eq_true.2 h]; rfl
theorem pathR_size {s : ByteArray} (h : pathR s = true) : s.size ≤ 150 := by
  unfold pathR at h
  simp only [Bool.and_eq_true, decide_eq_true_eq] at h
  exact h.1
/-- Each part is no longer than the text. -/
theorem splitL_le (d : UInt8) : ∀ (l cur p : List UInt8), p ∈ splitL d cur l → p.length ≤ cur.length + l.length
  | [], cur, p, h => by simp [splitL] at h; subst h; simp
  | c :: l, cur, p, h => by
    by_cases e : c = d
    · rw [splitL_hit e] at h
      rcases List.mem_cons.1 h with rfl | h
      · omega
      · have := splitL_le d l [] p h; simp at this ⊢; omega
    · rw [splitL_miss e] at h
      have := splitL_le d l _ p h; simp at this ⊢; omega
theorem splitL_count (d : UInt8) : ∀ (l cur : List UInt8), (splitL d cur l).length ≤ l.length + 1
  | [], cur => by simp [splitL]
  | c :: l, cur => by
    by_cases e : c = d
    · rw [splitL_hit e]; have := splitL_count d l []; simp; omega
    · rw [splitL_miss e]; have := splitL_count d l (cur ++ [c]); simp at this ⊢; omega
end Go.Proofs.YtephjmlcbpfnaaaGreatDoor.M

/-
  Right files and right trees, with no word of the program.
-/
namespace Go.Proofs.YtephjmlcbpfnaaaGreatDoor.M

/-- One text stands ahead of another. -/
def ltB (a b : ByteArray) : Prop := a.data.toList < b.data.toList
theorem ltB_irrefl (a : ByteArray) : ¬ ltB a a := List.lt_irrefl _
theorem ltB_trans {a b c : ByteArray} (h : ltB a b) (h' : ltB b c) : ltB a c := List.lt_trans h h'
theorem ltB_tri (a b : ByteArray) : ltB a b ∨ a = b ∨ ltB b a := by
  by_cases h1 : ltB a b
  · exact .inl h1
  · by_cases h2 : ltB b a
    · exact .inr (.inr h2)
    · refine .inr (.inl ?_)
      apply ByteArray.ext
      apply Array.toList_inj.1
      exact List.le_antisymm (List.not_lt.1 h2) (List.not_lt.1 h1)

/-- What is ahead of the last stroke of a path. -/
def aboveB (s : ByteArray) : ByteArray := s.extract 0 (Lib.lastIndexByte s 47).toNat

/-- A right file. -/
def fileR (f : FileD) : Bool := pathR f.path && decide (0 ≤ f.mode ∧ f.mode ≤ 4095) && decide (0 ≤ f.time ∧ f.time ≤ 1000000000) && decide (f.data.size ≤ 1200) && (!f.dir || decide (f.data.size = 0))

/-- A right tree. -/
structure TreeR (fs : List FileD) : Prop where
  len : fs.length ≤ 20
  file : ∀ i (h : i < fs.length), fileR fs[i] = true
  rise : ∀ i j (h : i < j) (h' : j < fs.length), ltB fs[i].path fs[j].path
  up : ∀ i (h : i < fs.length), (aboveB fs[i].path).size = 0 ∨ ∃ j, ∃ h' : j < fs.length, fs[j].path = aboveB fs[i].path ∧ fs[j].dir = true

theorem rise_of_adj {fs : List FileD} (h : ∀ i (_ : 0 < i) (h' : i < fs.length), ltB fs[i - 1].path fs[i].path) : ∀ i j (_ : i < j) (h' : j < fs.length), ltB fs[i].path fs[j].path := by
  intro i j hij
  induction j with
  | zero => omega
  | succ j ih =>
    intro h'
    have h1 := h (j + 1) (by omega) h'
    simp only [Nat.add_sub_cancel] at h1
    by_cases e : i = j
    · subst e; exact h1
    · exact ltB_trans (ih (by omega) (by omega)) h1

/-- Where a search for a path among rising files ends. -/
structure Place (fs : List FileD) (p : ByteArray) (k : Nat) : Prop where
  le : k ≤ fs.length
  low : ∀ j (_ : j < k) (h' : j < fs.length), ltB fs[j].path p
  high : ∀ h : k < fs.length, ¬ ltB fs[k].path p
/-- The path is there. -/
def There (fs : List FileD) (p : ByteArray) (k : Nat) : Prop := ∃ h : k < fs.length, fs[k].path = p

theorem Place.eq_of_there {fs : List FileD} {p : ByteArray} {k j : Nat} (hk : Place fs p k) (hr : ∀ i j (_ : i < j) (h' : j < fs.length), ltB fs[i].path fs[j].path) (hj : There fs p j) : k = j := by
  obtain ⟨hj1, hj2⟩ := hj
  rcases Nat.lt_trichotomy k j with h | h | h
  · exact absurd (hj2 ▸ hr k j h hj1) (hk.high (by omega))
  · exact h
  · exact absurd (hj2 ▸ hk.low j h hj1) (ltB_irrefl _)
theorem TreeR.rise' {fs : List FileD} (h : TreeR fs) : ∀ i j (_ : i < j) (h' : j < fs.length), ltB fs[i].path fs[j].path := h.rise

/-- The file of a path, or the zero one. -/
def zeroF : FileD := ⟨ByteArray.empty, false, 0, 0, ByteArray.empty⟩
/-- f is what is found of a path. -/
def Found (fs : List FileD) (p : ByteArray) (f : FileD) : Prop := (∃ k, ∃ h : k < fs.length, fs[k].path = p ∧ fs[k] = f) ∨ (∀ k (h : k < fs.length), fs[k].path ≠ p) ∧ f = zeroF
theorem Found.unique {fs : List FileD} {p : ByteArray} {f g : FileD} (hr : ∀ i j (_ : i < j) (h' : j < fs.length), ltB fs[i].path fs[j].path) (h : Found fs p f) (h' : Found fs p g) : f = g := by
  rcases h with ⟨k, hk, e1, e2⟩ | ⟨hn, rfl⟩
  · rcases h' with ⟨j, hj, e3, e4⟩ | ⟨hn, _⟩
    · rcases Nat.lt_trichotomy k j with h | h | h
      · have := hr k j h hj; rw [e1, e3] at this; exact absurd this (ltB_irrefl _)
      · subst h; rw [← e2, ← e4]
      · have := hr j k h hk; rw [e1, e3] at this; exact absurd this (ltB_irrefl _)
    · exact absurd e1 (hn k hk)
  · rcases h' with ⟨j, hj, e3, e4⟩ | ⟨_, rfl⟩
    · exact absurd e3 (hn j hj)
    · rfl
end Go.Proofs.YtephjmlcbpfnaaaGreatDoor.M

/-
  An archive's bytes, with no word of the program.
-/
namespace Go.Proofs.YtephjmlcbpfnaaaGreatDoor.M

/-- How many bytes 0 fill n bytes up to whole blocks. -/
def fillN (n : Nat) : Nat := (512 - n % 512) % 512
def fillB (t : ByteArray) : ByteArray := t ++ zerosB (fillN t.size)
/-- A record behind its length. -/
def restB (p : ByteArray) : ByteArray := (⟨#[32, 112, 97, 116, 104, 61]⟩ : ByteArray) ++ p ++ ⟨#[10]⟩
/-- A number from 100 to 999 in digits. -/
def decB (n : Nat) : ByteArray := ⟨(Lib.decDigits n).toArray⟩
/-- The record of a long name. -/
def recB (p : ByteArray) : ByteArray := decB (p.size + 10) ++ restB p
def fullB (path : ByteArray) (dir : Bool) : ByteArray := if dir = true then path ++ ⟨#[47]⟩ else path
def kindN (dir : Bool) : Nat := if dir = true then 53 else 48
def paxB (nm : ByteArray) : ByteArray := head ⟨#[112, 97, 120]⟩ (recB nm).size 420 0 120 ++ fillB (recB nm)
/-- A file in an archive. -/
def entryB (f : FileD) : ByteArray :=
  (if 100 < (fullB f.path f.dir).size then paxB (fullB f.path f.dir) else ⟨#[]⟩)
    ++ head (if 100 < (fullB f.path f.dir).size then (fullB f.path f.dir).extract 0 100 else fullB f.path f.dir) f.data.size f.mode.toNat f.time.toNat (kindN f.dir)
    ++ fillB f.data
/-- The entries, one behind the other. -/
def entriesL (fs : List FileD) : List UInt8 := fs.flatMap fun f => (entryB f).data.toList
def archB (fs : List FileD) : ByteArray := (⟨(entriesL fs).toArray⟩ : ByteArray) ++ zerosB 1024
/-- What Pack tells. -/
def packB (fs : List FileD) : ByteArray := if fs.length ≤ 20 ∧ (fs.all fileR = true) ∧ (archB fs).size ≤ 20000 then archB fs else ⟨#[]⟩

theorem nDigits3 {n : Nat} (h : 100 ≤ n) (h' : n ≤ 999) : Lib.nDigits n = 3 := by
  rw [Lib.nDigits_big (by omega), Lib.nDigits_big (by omega), Lib.nDigits_small (by omega)]
theorem decB_size {n : Nat} (h : 100 ≤ n) (h' : n ≤ 999) : (decB n).size = 3 := by
  unfold decB; rw [Lib.size_eq]; rw [show (⟨(Lib.decDigits n).toArray⟩ : ByteArray).data.toList = Lib.decDigits n from rfl, Lib.decDigits_length, nDigits3 h h']
theorem restB_size (p : ByteArray) : (restB p).size = p.size + 7 := by
  unfold restB; rw [ByteArray.size_append, ByteArray.size_append]; show 6 + p.size + 1 = _; omega
theorem recB_size {p : ByteArray} (h : 100 ≤ p.size) (h' : p.size ≤ 900) : (recB p).size = p.size + 10 := by
  unfold recB; rw [ByteArray.size_append, decB_size (by omega) (by omega), restB_size]; omega
theorem fillN_lt (n : Nat) : fillN n < 512 := Nat.mod_lt _ (by decide)
theorem fillB_size (t : ByteArray) : (fillB t).size = t.size + fillN t.size := by unfold fillB; rw [ByteArray.size_append, zerosB_size]
theorem fill_mod (n : Nat) : (n + fillN n) % 512 = 0 := by unfold fillN; omega
theorem head_size {name : ByteArray} {size mode time kind : Nat} (h0 : name.size ≤ 100) (h1 : mode < 8 ^ 7) (h2 : size < 8 ^ 11) (h3 : time < 8 ^ 11) : (head name size mode time kind).size = 512 := by
  have hn : name.data.toList.length ≤ 100 := by rw [← Lib.size_eq]; exact h0
  have he := pre_eq (kd := UInt8.ofNat kind) hn (octT_len 7 mode) (octT_len 7 0) (octT_len 11 size) (octT_len 11 time)
  have hl : (pre name.data.toList (octT 7 mode) (octT 7 0) (octT 11 size) (octT 11 time) (UInt8.ofNat kind)).length = 512 := by
    rw [he, List.length_append, List.length_append, preA_len hn (octT_len _ _) (octT_len _ _) (octT_len _ _) (octT_len _ _), preZ_len, List.length_replicate]
  rw [head_final (kind := kind) h0 h1 h2 h3 rfl, Lib.size_eq]
  show (over _ _ _).length = 512
  rw [over_len]
  · exact hl
  · rw [octB_full (head_sum_lt hl), hl, ← Lib.size_eq, ByteArray.size_append, Lib.size_eq]
    show 148 + ((octT 6 _).length + 2) ≤ 512
    rw [octT_len]
    decide
theorem paxB_size {nm : ByteArray} (h1 : 100 < nm.size) (h2 : nm.size ≤ 151) : (paxB nm).size = 1024 := by
  have hr := recB_size (p := nm) (by omega) (by omega)
  unfold paxB
  rw [ByteArray.size_append, head_size (by decide) (by decide) (by omega) (by decide), fillB_size, hr]
  unfold fillN; omega
theorem fullB_size (p : ByteArray) (d : Bool) (h : p.size ≤ 150) : (fullB p d).size ≤ 151 := by
  unfold fullB
  split
  · rw [ByteArray.size_append]; show p.size + 1 ≤ 151; omega
  · omega
theorem fillB_le {t : ByteArray} (h : t.size ≤ 1200) : (fillB t).size ≤ 1536 := by rw [fillB_size]; unfold fillN; omega
/-- The digits, one after the other, the lowest first. -/
def decI (n N : Nat) (acc : List UInt8) : Prop := (if N = 0 then [] else Lib.decDigits N) ++ acc = Lib.decDigits n
theorem decI_start {n : Nat} (h : n ≠ 0) : decI n n [] := by unfold decI; rw [if_neg h, List.append_nil]
theorem decI_end {n : Nat} {acc : List UInt8} (h : decI n 0 acc) : acc = Lib.decDigits n := by simpa [decI] using h
theorem decI_step {n N : Nat} {acc : List UInt8} (h : decI n N acc) (hN : N ≠ 0) : decI n (N / 10) (UInt8.ofNat (48 + N % 10) :: acc) := by
  unfold decI at h ⊢
  rw [if_neg hN] at h
  by_cases h10 : N < 10
  · rw [Lib.decDigits, dif_pos h10] at h
    rw [if_pos (by omega), Nat.mod_eq_of_lt h10]
    simpa using h
  · rw [Lib.decDigits, dif_neg h10] at h
    rw [if_neg (by omega)]
    simpa using h
theorem decI_len {n N : Nat} {acc : List UInt8} (h : decI n N acc) : acc.length ≤ (Lib.decDigits n).length := by
  rw [← h, List.length_append]; omega
end Go.Proofs.YtephjmlcbpfnaaaGreatDoor.M

/-
  How an archive is gone through, header by header, with no word of the program; that the archive of right files tells these.
-/
namespace Go.Proofs.YtephjmlcbpfnaaaGreatDoor.M

/-- n bytes from a place on. -/
def cutL (t : List UInt8) (a n : Nat) : List UInt8 := (t.drop a).take n
def ba (l : List UInt8) : ByteArray := ⟨l.toArray⟩
theorem ba_size (l : List UInt8) : (ba l).size = l.length := by unfold ba; rw [Lib.size_eq]
theorem ba_list (l : List UInt8) : (ba l).data.toList = l := rfl
/-- A field up to its first byte 0. -/
def textL (l : List UInt8) : List UInt8 := l.takeWhile (fun c => c != 0)
/-- Without a byte / at its end. -/
def stripL (l : List UInt8) : List UInt8 := if l.getLast? = some 47 then l.dropLast else l
def kindL (h : List UInt8) : UInt8 := h.getD 156 0
def sumOkL (h : List UInt8) : Bool := decide (cutL h 148 8 = (octB (sumH (ba h)) 6).data.toList ++ [0, 32])
def sizeL (h : List UInt8) : Int := octR (ba (cutL h 124 11))
def blk (n : Nat) : Nat := (n + 511) / 512
/-- The file of a header and its data; path: that of a record ahead of it. -/
def fileL (h data path : List UInt8) : FileD :=
  { path := ba (if kindL h = 53 then stripL (if path = [] then textL (cutL h 0 100) else path) else (if path = [] then textL (cutL h 0 100) else path)),
    dir := decide (kindL h = 53), mode := octR (ba (cutL h 100 7)), time := octR (ba (cutL h 136 11)), data := ba data }
/-- What comes of it: a fault and its place, or the files. -/
abbrev Rd : Type := Sum (Int × Nat) (List FileD)
abbrev Rd.ill (code : Int) (at' : Nat) : Rd := Sum.inl (code, at')
abbrev Rd.fin (fs : List FileD) : Rd := Sum.inr fs
/-- Where one stands: the path of a record, and the files so far. -/
structure St where
  path : List UInt8
  out : List FileD
def stepL (p : List UInt8 → List UInt8) (h data : List UInt8) (st : St) : St :=
  if kindL h = 120 then ⟨p data, st.out⟩ else ⟨[], st.out ++ [fileL h data st.path]⟩
/-- From header to header; p: the path of a record. -/
def readL (p : List UInt8 → List UInt8) (t : List UInt8) : Nat → Nat → St → Rd
  | 0, _, _ => Rd.ill 0 0
  | fuel + 1, a, st =>
    if t.length < a + 512 then Rd.ill 4 (a / 512)
    else if cutL t a 512 = List.replicate 512 0 then Rd.fin st.out
    else if sumOkL (cutL t a 512) = false then Rd.ill 5 (a / 512)
    else if sizeL (cutL t a 512) < 0 then Rd.ill 3 (a / 512)
    else if t.length < a + 512 + blk (sizeL (cutL t a 512)).toNat * 512 then Rd.ill 4 (a / 512)
    else readL p t fuel (a + 512 + blk (sizeL (cutL t a 512)).toNat * 512) (stepL p (cutL t a 512) (cutL t (a + 512) (sizeL (cutL t a 512)).toNat) st)

/-- What is wrong, and where, does not hang on how a record is read. -/
theorem readL_ill (p q : List UInt8 → List UInt8) (t : List UInt8) : ∀ (fuel a : Nat) (s u : St), (∀ c b, readL p t fuel a s = Rd.ill c b ↔ readL q t fuel a u = Rd.ill c b)
  | 0, _, _, _, c, b => Iff.rfl
  | fuel + 1, a, s, u, c, b => by
    unfold readL
    by_cases h1 : t.length < a + 512
    · rw [if_pos h1, if_pos h1]
    rw [if_neg h1, if_neg h1]
    by_cases h2 : cutL t a 512 = List.replicate 512 0
    · rw [if_pos h2, if_pos h2]; exact Iff.intro (fun h => by cases h) (fun h => by cases h)
    rw [if_neg h2, if_neg h2]
    by_cases h3 : sumOkL (cutL t a 512) = false
    · rw [if_pos h3, if_pos h3]
    rw [if_neg h3, if_neg h3]
    by_cases h4 : sizeL (cutL t a 512) < 0
    · rw [if_pos h4, if_pos h4]
    rw [if_neg h4, if_neg h4]
    by_cases h5 : t.length < a + 512 + blk (sizeL (cutL t a 512)).toNat * 512
    · rw [if_pos h5, if_pos h5]
    rw [if_neg h5, if_neg h5]
    exact readL_ill p q t fuel _ _ _ c b

/-! ### What stands in a header -/
theorem cutL_app (A B C : List UInt8) (a n : Nat) (ha : A.length = a) (hn : B.length = n) : cutL (A ++ B ++ C) a n = B := by
  unfold cutL
  subst ha hn
  rw [List.append_assoc, List.drop_left, List.take_left]
theorem octT_isOct : ∀ (d n : Nat), ∀ c ∈ octT d n, isOct c = true
  | 0, _, c, hc => by cases hc
  | d + 1, n, c, hc => by
    rcases List.mem_cons.1 hc with rfl | h
    · have h8 : n / 8 ^ d % 8 < 8 := Nat.mod_lt _ (by decide)
      unfold isOct
      rw [UInt8.toNat_ofNat', Nat.mod_eq_of_lt (show 48 + n / 8 ^ d % 8 < 2 ^ 8 by omega)]
      rw [decide_eq_true (by omega), decide_eq_true (by omega)]; rfl
    · exact octT_isOct d n c h
theorem octV_octT : ∀ (d n a : Nat), (octT d n).foldl (fun n c => 8 * n + (c.toNat - 48)) a = a * 8 ^ d + n % 8 ^ d
  | 0, n, a => by simp [octT, Nat.mod_one]
  | d + 1, n, a => by
    have h8 : n / 8 ^ d % 8 < 8 := Nat.mod_lt _ (by decide)
    rw [octT, List.foldl_cons, octV_octT d n, UInt8.toNat_ofNat', Nat.mod_eq_of_lt (show 48 + n / 8 ^ d % 8 < 2 ^ 8 by omega), Nat.add_sub_cancel_left, Nat.pow_succ, Nat.mod_mul, Nat.add_mul]
    have e1 : 8 * a * 8 ^ d = a * (8 ^ d * 8) := by rw [Nat.mul_comm 8 a, Nat.mul_assoc, Nat.mul_comm 8]
    have e2 : n / 8 ^ d % 8 * 8 ^ d = 8 ^ d * (n / 8 ^ d % 8) := Nat.mul_comm _ _
    omega
theorem octR_octT {d n : Nat} (h1 : 1 ≤ d) (h2 : d ≤ 20) (h : n < 8 ^ d) : octR (ba (octT d n)) = (n : Int) := by
  rw [octR_good (by rw [ba_size, octT_len]; exact h1) (by rw [ba_size, octT_len]; exact h2) (fun c hc => octT_isOct d n c hc), ba_list]
  unfold octV
  rw [octV_octT, Nat.zero_mul, Nat.zero_add, Nat.mod_eq_of_lt h]
/-- Two headers that differ in their sum fields alone have one sum. -/
theorem sumK_mid (A X Y B : List UInt8) (hA : A.length = 148) (hX : X.length = 8) (hY : Y.length = 8) : ∀ k, sumK (ba (A ++ X ++ B)) k = sumK (ba (A ++ Y ++ B)) k
  | 0 => rfl
  | k + 1 => by
    simp only [sumK]
    rw [sumK_mid A X Y B hA hX hY k, ba_list, ba_list]
    congr 1
    by_cases h : 148 ≤ k ∧ k < 156
    · unfold sumC; rw [if_pos h, if_pos h]
    · have e : (A ++ X ++ B).getD k 0 = (A ++ Y ++ B).getD k 0 := by
        rw [List.getD_eq_getElem?_getD, List.getD_eq_getElem?_getD]
        by_cases hk : k < 148
        · rw [List.append_assoc, List.append_assoc, List.getElem?_append_left (by omega), List.getElem?_append_left (by omega)]
        · rw [List.getElem?_append_right (by rw [List.length_append]; omega), List.getElem?_append_right (by rw [List.length_append]; omega), List.length_append, List.length_append, hX, hY]
      rw [e]
theorem sumH_mid (A X Y B : List UInt8) (hA : A.length = 148) (hX : X.length = 8) (hY : Y.length = 8) : sumH (ba (A ++ X ++ B)) = sumH (ba (A ++ Y ++ B)) := by
  unfold sumH
  rw [ba_size, ba_size, List.length_append, List.length_append, List.length_append, List.length_append, hX, hY]
  exact sumK_mid A X Y B hA hX hY _

theorem head_parts {name : ByteArray} {size mode time kind : Nat} (h0 : name.size ≤ 100) (h1 : mode < 8 ^ 7) (h2 : size < 8 ^ 11) (h3 : time < 8 ^ 11) :
    ∃ q, q < 8 ^ 6 ∧ (head name size mode time kind).data.toList = preA name.data.toList (octT 7 mode) (octT 7 0) (octT 11 size) (octT 11 time) ++ (octT 6 q ++ [0, 32]) ++ preZ (UInt8.ofNat kind)
      ∧ q = sumH (ba (preA name.data.toList (octT 7 mode) (octT 7 0) (octT 11 size) (octT 11 time) ++ List.replicate 8 0 ++ preZ (UInt8.ofNat kind))) := by
  have hn : name.data.toList.length ≤ 100 := by rw [← Lib.size_eq]; exact h0
  have he := pre_eq (kd := UInt8.ofNat kind) hn (octT_len 7 mode) (octT_len 7 0) (octT_len 11 size) (octT_len 11 time)
  have hl : (pre name.data.toList (octT 7 mode) (octT 7 0) (octT 11 size) (octT 11 time) (UInt8.ofNat kind)).length = 512 := by
    rw [he, List.length_append, List.length_append, preA_len hn (octT_len _ _) (octT_len _ _) (octT_len _ _) (octT_len _ _), preZ_len, List.length_replicate]
  refine ⟨sumH (ba (pre name.data.toList (octT 7 mode) (octT 7 0) (octT 11 size) (octT 11 time) (UInt8.ofNat kind))), head_sum_lt hl, ?_, by rw [he]⟩
  rw [head_final (kind := kind) h0 h1 h2 h3 rfl]
  show over _ _ _ = _
  rw [octB_full (head_sum_lt hl), show (⟨#[0, 32]⟩ : ByteArray) = ⟨[(0 : UInt8), 32].toArray⟩ from rfl, ba_L]
  exact post_eq hn (octT_len _ _) (octT_len _ _) (octT_len _ _) (octT_len _ _) (by rw [List.length_append, octT_len]; rfl)
/-- What is read of a header. -/
structure HeadIs (h : List UInt8) (name : List UInt8) (size mode time : Nat) (kind : UInt8) : Prop where
  len : h.length = 512
  sum : sumOkL h = true
  size : sizeL h = (size : Int)
  mode : octR (ba (cutL h 100 7)) = (mode : Int)
  time : octR (ba (cutL h 136 11)) = (time : Int)
  kind : kindL h = kind
  name : cutL h 0 100 = name ++ List.replicate (100 - name.length) 0
theorem head_is {name : ByteArray} {size mode time kind : Nat} (h0 : name.size ≤ 100) (h1 : mode < 8 ^ 7) (h2 : size < 8 ^ 11) (h3 : time < 8 ^ 11) :
    HeadIs (head name size mode time kind).data.toList name.data.toList size mode time (UInt8.ofNat kind) := by
  obtain ⟨q, hq, he, hs⟩ := head_parts (kind := kind) h0 h1 h2 h3
  have hn : name.data.toList.length ≤ 100 := by rw [← Lib.size_eq]; exact h0
  have hA := preA_len hn (octT_len 7 mode) (octT_len 7 0) (octT_len 11 size) (octT_len 11 time)
  have hX : (octT 6 q ++ [(0 : UInt8), 32]).length = 8 := by rw [List.length_append, octT_len]; rfl
  rw [he]
  refine ⟨?_, ?_, ?_, ?_, ?_, ?_, ?_⟩
  · rw [List.length_append, List.length_append, hA, hX, preZ_len]
  · unfold sumOkL
    rw [decide_eq_true_iff, cutL_app _ _ _ _ _ hA hX]
    have e := (sumH_mid _ _ _ (preZ (UInt8.ofNat kind)) hA hX (List.length_replicate (n := 8) (a := (0 : UInt8)))).trans hs.symm
    rw [e, octB_full hq]
  · unfold sizeL
    have := cutL_app (name.data.toList ++ List.replicate (100 - name.data.toList.length) 0 ++ octT 7 mode ++ [0] ++ octT 7 0 ++ [0] ++ octT 7 0 ++ [0]) (octT 11 size) ([0] ++ octT 11 time ++ [0] ++ (octT 6 q ++ [0, 32]) ++ preZ (UInt8.ofNat kind)) 124 11
      (by simp only [List.length_append, List.length_replicate, octT_len, List.length_cons, List.length_nil]; omega) (octT_len _ _)
    rw [show preA name.data.toList (octT 7 mode) (octT 7 0) (octT 11 size) (octT 11 time) ++ (octT 6 q ++ [0, 32]) ++ preZ (UInt8.ofNat kind) = (name.data.toList ++ List.replicate (100 - name.data.toList.length) 0 ++ octT 7 mode ++ [0] ++ octT 7 0 ++ [0] ++ octT 7 0 ++ [0]) ++ octT 11 size ++ ([0] ++ octT 11 time ++ [0] ++ (octT 6 q ++ [0, 32]) ++ preZ (UInt8.ofNat kind)) by unfold preA; simp only [List.append_assoc], this]
    exact octR_octT (by decide) (by decide) h2
  · have := cutL_app (name.data.toList ++ List.replicate (100 - name.data.toList.length) 0) (octT 7 mode) ([0] ++ octT 7 0 ++ [0] ++ octT 7 0 ++ [0] ++ octT 11 size ++ [0] ++ octT 11 time ++ [0] ++ (octT 6 q ++ [0, 32]) ++ preZ (UInt8.ofNat kind)) 100 7
      (by simp only [List.length_append, List.length_replicate]; omega) (octT_len _ _)
    rw [show preA name.data.toList (octT 7 mode) (octT 7 0) (octT 11 size) (octT 11 time) ++ (octT 6 q ++ [0, 32]) ++ preZ (UInt8.ofNat kind) = (name.data.toList ++ List.replicate (100 - name.data.toList.length) 0) ++ octT 7 mode ++ ([0] ++ octT 7 0 ++ [0] ++ octT 7 0 ++ [0] ++ octT 11 size ++ [0] ++ octT 11 time ++ [0] ++ (octT 6 q ++ [0, 32]) ++ preZ (UInt8.ofNat kind)) by unfold preA; simp only [List.append_assoc], this]
    exact octR_octT (by decide) (by decide) h1
  · have := cutL_app (name.data.toList ++ List.replicate (100 - name.data.toList.length) 0 ++ octT 7 mode ++ [0] ++ octT 7 0 ++ [0] ++ octT 7 0 ++ [0] ++ octT 11 size ++ [0]) (octT 11 time) ([0] ++ (octT 6 q ++ [0, 32]) ++ preZ (UInt8.ofNat kind)) 136 11
      (by simp only [List.length_append, List.length_replicate, octT_len, List.length_cons, List.length_nil]; omega) (octT_len _ _)
    rw [show preA name.data.toList (octT 7 mode) (octT 7 0) (octT 11 size) (octT 11 time) ++ (octT 6 q ++ [0, 32]) ++ preZ (UInt8.ofNat kind) = (name.data.toList ++ List.replicate (100 - name.data.toList.length) 0 ++ octT 7 mode ++ [0] ++ octT 7 0 ++ [0] ++ octT 7 0 ++ [0] ++ octT 11 size ++ [0]) ++ octT 11 time ++ ([0] ++ (octT 6 q ++ [0, 32]) ++ preZ (UInt8.ofNat kind)) by unfold preA; simp only [List.append_assoc], this]
    exact octR_octT (by decide) (by decide) h3
  · unfold kindL
    rw [List.getD_eq_getElem?_getD, List.getElem?_append_right (by rw [List.length_append, hA, hX]; decide), List.length_append, hA, hX]
    rfl
  · have := cutL_app [] (name.data.toList ++ List.replicate (100 - name.data.toList.length) 0) (octT 7 mode ++ [0] ++ octT 7 0 ++ [0] ++ octT 7 0 ++ [0] ++ octT 11 size ++ [0] ++ octT 11 time ++ [0] ++ (octT 6 q ++ [0, 32]) ++ preZ (UInt8.ofNat kind)) 0 100
      rfl (by simp only [List.length_append, List.length_replicate]; omega)
    rw [show preA name.data.toList (octT 7 mode) (octT 7 0) (octT 11 size) (octT 11 time) ++ (octT 6 q ++ [0, 32]) ++ preZ (UInt8.ofNat kind) = [] ++ (name.data.toList ++ List.replicate (100 - name.data.toList.length) 0) ++ (octT 7 mode ++ [0] ++ octT 7 0 ++ [0] ++ octT 7 0 ++ [0] ++ octT 11 size ++ [0] ++ octT 11 time ++ [0] ++ (octT 6 q ++ [0, 32]) ++ preZ (UInt8.ofNat kind)) by unfold preA; simp only [List.append_assoc, List.nil_append], this]
end Go.Proofs.YtephjmlcbpfnaaaGreatDoor.M

/-
  The archive of right files tells these files, however a record is read, if it is read as it is written.
-/
namespace Go.Proofs.YtephjmlcbpfnaaaGreatDoor.M

theorem textL_pad {nm : List UInt8} (h : ∀ c ∈ nm, c ≠ 0) (k : Nat) : textL (nm ++ List.replicate k 0) = nm := by
  unfold textL
  rw [List.takeWhile_append_of_pos (fun c hc => by simpa using h c hc)]
  cases k with
  | zero => simp
  | succ k => simp [List.replicate_succ]
theorem stripL_slash (l : List UInt8) : stripL (l ++ [47]) = l := by
  unfold stripL
  rw [if_pos (by simp)]
  simp
theorem kind_zero : kindL (List.replicate 512 0) = 0 := by
  unfold kindL
  rw [List.getD_eq_getElem?_getD, List.getElem?_replicate]
  rfl
theorem fill_blk (n : Nat) : n + fillN n = blk n * 512 := by unfold fillN blk; omega
/-- One header, and what follows it. -/
theorem readL_head (p : List UInt8 → List UInt8) {A H D R nm : List UInt8} {size mode time : Nat} {kind : UInt8} (hH : HeadIs H nm size mode time kind) (hk : kind ≠ 0) (hD : D.length = size) (fuel : Nat) (st : St) :
    readL p (A ++ H ++ (D ++ List.replicate (fillN size) 0) ++ R) (fuel + 1) A.length st = readL p (A ++ H ++ (D ++ List.replicate (fillN size) 0) ++ R) fuel (A.length + 512 + blk size * 512) (stepL p H D st) := by
  have hl : (A ++ H ++ (D ++ List.replicate (fillN size) 0) ++ R).length = A.length + 512 + blk size * 512 + R.length := by
    simp only [List.length_append, List.length_replicate, hH.len, hD]
    rw [fill_blk]
  have hc : cutL (A ++ H ++ (D ++ List.replicate (fillN size) 0) ++ R) A.length 512 = H := by
    rw [show A ++ H ++ (D ++ List.replicate (fillN size) 0) ++ R = A ++ H ++ ((D ++ List.replicate (fillN size) 0) ++ R) by simp only [List.append_assoc]]
    exact cutL_app _ _ _ _ _ rfl hH.len
  have hd : cutL (A ++ H ++ (D ++ List.replicate (fillN size) 0) ++ R) (A.length + 512) size = D := by
    rw [show A ++ H ++ (D ++ List.replicate (fillN size) 0) ++ R = (A ++ H) ++ D ++ (List.replicate (fillN size) 0 ++ R) by simp only [List.append_assoc]]
    exact cutL_app _ _ _ _ _ (by rw [List.length_append, hH.len]) hD
  conv => lhs; unfold readL
  rw [hc, hl, if_neg (by omega), if_neg (fun e => hk (by rw [← hH.kind, e]; exact kind_zero)), if_neg (by rw [hH.sum]; decide), hH.size, if_neg (by omega), Int.toNat_natCast, if_neg (by omega), hd]
theorem readL_end (p : List UInt8 → List UInt8) (A R : List UInt8) (fuel : Nat) (st : St) : readL p (A ++ List.replicate 512 0 ++ R) (fuel + 1) A.length st = Rd.fin st.out := by
  conv => lhs; unfold readL
  rw [if_neg (by simp only [List.length_append, List.length_replicate]; omega), if_pos (cutL_app _ _ _ _ _ rfl List.length_replicate)]

/-- A record is read as it is written. -/
def RecOk (p : List UInt8 → List UInt8) : Prop := ∀ nm : ByteArray, 100 < nm.size → nm.size ≤ 151 → p (recB nm).data.toList = nm.data.toList
theorem fillB_list (t : ByteArray) : (fillB t).data.toList = t.data.toList ++ List.replicate (fillN t.size) 0 := by
  unfold fillB zerosB
  rw [ByteArray.data_append, Array.toList_append]
theorem app_list (a b : ByteArray) : (a ++ b).data.toList = a.data.toList ++ b.data.toList := by
  rw [ByteArray.data_append, Array.toList_append]
/-- What a right file's path is made of. -/
structure PathIs (f : FileD) : Prop where
  path : f.path.size ≤ 150
  nz : ∀ c ∈ f.path.data.toList, c ≠ 0
  mode : 0 ≤ f.mode ∧ f.mode ≤ 4095
  time : 0 ≤ f.time ∧ f.time ≤ 1000000000
  data : f.data.size ≤ 1200
theorem full_nz {f : FileD} (h : PathIs f) : ∀ c ∈ (fullB f.path f.dir).data.toList, c ≠ 0 := by
  intro c hc
  unfold fullB at hc
  split at hc
  · rw [app_list] at hc
    rcases List.mem_append.1 hc with h1 | h1
    · exact h.nz c h1
    · rw [show (⟨#[47]⟩ : ByteArray).data.toList = [47] from rfl, List.mem_singleton] at h1
      rw [h1]; decide
  · exact h.nz c hc
/-- The file that a right file's header and data tell. -/
theorem fileL_is {f : FileD} (h : PathIs f) {H nm path : List UInt8} (hH : HeadIs H nm f.data.size f.mode.toNat f.time.toNat (UInt8.ofNat (kindN f.dir)))
    (hp : (if path = [] then textL (cutL H 0 100) else path) = (fullB f.path f.dir).data.toList) : fileL H f.data.data.toList path = f := by
  unfold fileL
  rw [hp, hH.kind, hH.mode, hH.time]
  obtain ⟨fp, fd, fm, ft, fda⟩ := f
  have e1 : ((fm.toNat : Nat) : Int) = fm := Int.toNat_of_nonneg h.mode.1
  have e2 : ((ft.toNat : Nat) : Int) = ft := Int.toNat_of_nonneg h.time.1
  cases fd
  · show FileD.mk (ba (if (48 : UInt8) = 53 then stripL fp.data.toList else fp.data.toList)) (decide ((48 : UInt8) = 53)) (fm.toNat : Int) (ft.toNat : Int) (ba fda.data.toList) = _
    rw [if_neg (by decide), e1, e2]
    rfl
  · show FileD.mk (ba (if (53 : UInt8) = 53 then stripL (fp ++ (⟨#[47]⟩ : ByteArray)).data.toList else (fp ++ (⟨#[47]⟩ : ByteArray)).data.toList)) (decide ((53 : UInt8) = 53)) (fm.toNat : Int) (ft.toNat : Int) (ba fda.data.toList) = _
    rw [if_pos rfl, app_list, e1, e2, show (⟨#[47]⟩ : ByteArray).data.toList = [47] from rfl, stripL_slash]
    rfl
/-- The entry of a right file. -/
theorem readL_entry (p : List UInt8 → List UInt8) (hp : RecOk p) {f : FileD} (h : PathIs f) (A R : List UInt8) (out : List FileD) :
    ∃ k, 1 ≤ k ∧ k ≤ 2 ∧ ∀ fuel, readL p (A ++ (entryB f).data.toList ++ R) (fuel + k) A.length ⟨[], out⟩ = readL p (A ++ (entryB f).data.toList ++ R) fuel (A.length + (entryB f).size) ⟨[], out ++ [f]⟩ := by
  have hm : f.mode.toNat < 8 ^ 7 := by have := h.mode; omega
  have ht : f.time.toNat < 8 ^ 11 := by have := h.time; omega
  have hs : f.data.size < 8 ^ 11 := by have := h.data; omega
  have hk53 : UInt8.ofNat (kindN f.dir) ≠ 0 := by cases f.dir <;> decide
  have hk120 : ¬ UInt8.ofNat (kindN f.dir) = 120 := by cases f.dir <;> decide
  have hnm := fullB_size f.path f.dir h.path
  by_cases hl : 100 < (fullB f.path f.dir).size
  · refine ⟨2, by decide, by decide, fun fuel => ?_⟩
    have hrs := recB_size (p := fullB f.path f.dir) (by omega) (by omega)
    have H1 := head_is (name := ⟨#[112, 97, 120]⟩) (size := (recB (fullB f.path f.dir)).size) (mode := 420) (time := 0) (kind := 120) (by decide) (by decide) (by omega) (by decide)
    have H2 := head_is (name := (fullB f.path f.dir).extract 0 100) (size := f.data.size) (mode := f.mode.toNat) (time := f.time.toNat) (kind := kindN f.dir) (by rw [ByteArray.size_extract]; omega) hm hs ht
    have hE : (entryB f).data.toList = (head ⟨#[112, 97, 120]⟩ (recB (fullB f.path f.dir)).size 420 0 120).data.toList ++ ((recB (fullB f.path f.dir)).data.toList ++ List.replicate (fillN (recB (fullB f.path f.dir)).size) 0) ++ ((head ((fullB f.path f.dir).extract 0 100) f.data.size f.mode.toNat f.time.toNat (kindN f.dir)).data.toList ++ (f.data.data.toList ++ List.replicate (fillN f.data.size) 0)) := by
      unfold entryB
      rw [if_pos hl, if_pos hl, app_list, app_list]
      unfold paxB
      rw [app_list, fillB_list, fillB_list]
      simp only [List.append_assoc]
    have hES : (entryB f).size = 512 + blk (recB (fullB f.path f.dir)).size * 512 + (512 + blk f.data.size * 512) := by
      rw [Lib.size_eq, hE]
      simp only [List.length_append, List.length_replicate, H1.len, H2.len]
      rw [← Lib.size_eq, ← Lib.size_eq, fill_blk, fill_blk]
    rw [hES, hE]
    generalize hr : (recB (fullB f.path f.dir)).data.toList = rl
    have hrl : rl.length = (recB (fullB f.path f.dir)).size := by rw [← hr, Lib.size_eq]
    have hpr : p rl = (fullB f.path f.dir).data.toList := by rw [← hr]; exact hp _ hl hnm
    generalize (recB (fullB f.path f.dir)).size = rs at *
    generalize (head ⟨#[112, 97, 120]⟩ rs 420 0 120).data.toList = h1 at *
    generalize hh2 : (head ((fullB f.path f.dir).extract 0 100) f.data.size f.mode.toNat f.time.toNat (kindN f.dir)).data.toList = h2 at *
    have s1 := readL_head p (A := A) (R := (h2 ++ (f.data.data.toList ++ List.replicate (fillN f.data.size) 0)) ++ R) H1 (by decide) hrl (fuel + 1) ⟨[], out⟩
    have e1 : A ++ h1 ++ (rl ++ List.replicate (fillN rs) 0) ++ ((h2 ++ (f.data.data.toList ++ List.replicate (fillN f.data.size) 0)) ++ R) = A ++ (h1 ++ (rl ++ List.replicate (fillN rs) 0) ++ (h2 ++ (f.data.data.toList ++ List.replicate (fillN f.data.size) 0))) ++ R := by simp only [List.append_assoc]
    rw [e1] at s1
    rw [show fuel + 2 = fuel + 1 + 1 from rfl, s1]
    have hst : stepL p h1 rl ⟨[], out⟩ = ⟨(fullB f.path f.dir).data.toList, out⟩ := by unfold stepL; rw [H1.kind, if_pos (by decide), hpr]
    rw [hst]
    have s2 := readL_head p (A := A ++ h1 ++ (rl ++ List.replicate (fillN rs) 0)) (R := R) H2 hk53 (D := f.data.data.toList) (by rw [← Lib.size_eq]) fuel ⟨(fullB f.path f.dir).data.toList, out⟩
    have e2 : A ++ h1 ++ (rl ++ List.replicate (fillN rs) 0) ++ h2 ++ (f.data.data.toList ++ List.replicate (fillN f.data.size) 0) ++ R = A ++ (h1 ++ (rl ++ List.replicate (fillN rs) 0) ++ (h2 ++ (f.data.data.toList ++ List.replicate (fillN f.data.size) 0))) ++ R := by simp only [List.append_assoc]
    have e3 : (A ++ h1 ++ (rl ++ List.replicate (fillN rs) 0)).length = A.length + 512 + blk rs * 512 := by
      simp only [List.length_append, List.length_replicate, H1.len, hrl]; rw [fill_blk]
    rw [e2, e3] at s2
    rw [s2]
    have hne : ¬ (fullB f.path f.dir).data.toList = [] := fun e => by
      have : (fullB f.path f.dir).size = 0 := by rw [Lib.size_eq, e]; rfl
      omega
    have hst2 : stepL p h2 f.data.data.toList ⟨(fullB f.path f.dir).data.toList, out⟩ = ⟨[], out ++ [f]⟩ := by
      unfold stepL
      rw [H2.kind, if_neg hk120, fileL_is h H2 (by rw [if_neg hne])]
    rw [hst2, show A.length + 512 + blk rs * 512 + 512 + blk f.data.size * 512 = A.length + (512 + blk rs * 512 + (512 + blk f.data.size * 512)) by omega]
  · refine ⟨1, by decide, by decide, fun fuel => ?_⟩
    have H2 := head_is (name := fullB f.path f.dir) (size := f.data.size) (mode := f.mode.toNat) (time := f.time.toNat) (kind := kindN f.dir) (by omega) hm hs ht
    have hE : (entryB f).data.toList = (head (fullB f.path f.dir) f.data.size f.mode.toNat f.time.toNat (kindN f.dir)).data.toList ++ (f.data.data.toList ++ List.replicate (fillN f.data.size) 0) := by
      unfold entryB
      rw [if_neg hl, if_neg hl, app_list, app_list, fillB_list]
      rfl
    have hES : (entryB f).size = 512 + blk f.data.size * 512 := by
      rw [Lib.size_eq, hE]
      simp only [List.length_append, List.length_replicate, H2.len]
      rw [← Lib.size_eq, fill_blk]
    rw [hES, hE]
    generalize hh2 : (head (fullB f.path f.dir) f.data.size f.mode.toNat f.time.toNat (kindN f.dir)).data.toList = h2 at *
    have s2 := readL_head p (A := A) (R := R) H2 hk53 (D := f.data.data.toList) (by rw [← Lib.size_eq]) fuel ⟨[], out⟩
    have e2 : A ++ h2 ++ (f.data.data.toList ++ List.replicate (fillN f.data.size) 0) ++ R = A ++ (h2 ++ (f.data.data.toList ++ List.replicate (fillN f.data.size) 0)) ++ R := by simp only [List.append_assoc]
    rw [e2] at s2
    rw [s2]
    have hst2 : stepL p h2 f.data.data.toList ⟨[], out⟩ = ⟨[], out ++ [f]⟩ := by
      unfold stepL
      rw [H2.kind, if_neg hk120, fileL_is h H2 (by rw [if_pos rfl, H2.name, textL_pad (full_nz h)])]
    rw [hst2, Nat.add_assoc]
/-- The archive of right files tells these. -/
theorem readL_files (p : List UInt8 → List UInt8) (hp : RecOk p) : ∀ (fs : List FileD) (A : List UInt8) (out : List FileD), (∀ f ∈ fs, PathIs f) → ∀ fuel, 2 * fs.length < fuel → readL p (A ++ entriesL fs ++ List.replicate 1024 0) fuel A.length ⟨[], out⟩ = Rd.fin (out ++ fs)
  | [], A, out, _, fuel, hf => by
    obtain ⟨k, rfl⟩ : ∃ k, fuel = k + 1 := ⟨fuel - 1, by simp at hf; omega⟩
    rw [show A ++ entriesL [] ++ List.replicate 1024 0 = A ++ List.replicate 512 0 ++ List.replicate 512 0 by
      rw [show (1024 : Nat) = 512 + 512 from rfl, zer_split]; simp only [entriesL, List.flatMap_nil, List.append_nil, List.append_assoc], readL_end, List.append_nil]
  | f :: fs, A, out, h, fuel, hf => by
    obtain ⟨k, hk1, hk2, hr⟩ := readL_entry p hp (h f List.mem_cons_self) A (entriesL fs ++ List.replicate 1024 0) out
    rw [List.length_cons] at hf
    obtain ⟨m, rfl⟩ : ∃ m, fuel = m + k := ⟨fuel - k, by omega⟩
    have e : A ++ entriesL (f :: fs) ++ List.replicate 1024 0 = A ++ (entryB f).data.toList ++ (entriesL fs ++ List.replicate 1024 0) := by
      simp only [entriesL, List.flatMap_cons, List.append_assoc]
    rw [e, hr m]
    have ih := readL_files p hp fs (A ++ (entryB f).data.toList) (out ++ [f]) (fun g hg => h g (List.mem_cons_of_mem _ hg)) m (by omega)
    rw [List.length_append, ← Lib.size_eq] at ih
    rw [show A ++ (entryB f).data.toList ++ (entriesL fs ++ List.replicate 1024 0) = A ++ (entryB f).data.toList ++ entriesL fs ++ List.replicate 1024 0 by simp only [List.append_assoc], ih]
    simp
end Go.Proofs.YtephjmlcbpfnaaaGreatDoor.M

/-
  What Unpack tells, with no word of the program: both ways to read a record tell the same.
-/
namespace Go.Proofs.YtephjmlcbpfnaaaGreatDoor.M

theorem splitL_mem (d : UInt8) : ∀ (l acc : List UInt8) (c : UInt8), c ∈ acc ++ l → c = d ∨ ∃ q ∈ splitL d acc l, c ∈ q
  | [], acc, c, hc => .inr ⟨acc, by simp [splitL], by simpa using hc⟩
  | b :: l, acc, c, hc => by
    by_cases hb : b = d
    · rw [splitL_hit hb]
      rcases List.mem_append.1 hc with h | h
      · exact .inr ⟨acc, List.mem_cons_self, h⟩
      · rcases List.mem_cons.1 h with rfl | h
        · exact .inl hb
        · rcases splitL_mem d l [] c (by simpa using h) with h1 | ⟨q, hq, h1⟩
          · exact .inl h1
          · exact .inr ⟨q, List.mem_cons_of_mem _ hq, h1⟩
    · rw [splitL_miss hb]
      exact splitL_mem d l (acc ++ [b]) c (by simpa using hc)
theorem fileR_path {f : FileD} (h : fileR f = true) : PathIs f := by
  unfold fileR at h
  simp only [Bool.and_eq_true, decide_eq_true_eq] at h
  obtain ⟨⟨⟨⟨h1, h2⟩, h3⟩, h4⟩, _⟩ := h
  unfold pathR at h1
  simp only [Bool.and_eq_true, decide_eq_true_eq] at h1
  refine ⟨h1.1, fun c hc e => ?_, h2, h3, h4⟩
  subst e
  rcases splitL_mem 47 f.path.data.toList [] 0 (by simpa using hc) with h5 | ⟨q, hq, h5⟩
  · exact absurd h5 (by decide)
  · have := List.all_eq_true.1 h1.2 q hq
    rw [partR_bad h5 (by decide)] at this
    cases this

/-- The key of a record. -/
def keyL : List UInt8 := [32, 112, 97, 116, 104, 61]
/-- The path of a record, as the program reads it. -/
def recI (t : List UInt8) : List UInt8 := Lib.trimSuffix (Lib.cut t keyL).2.1 [10]
/-- The path of a record, as the specification reads it. -/
def recS (t : List UInt8) : List UInt8 := if 0 ≤ Lib.index t keyL then (t.drop ((Lib.index t keyL).toNat + 6)).dropLast else []
theorem dec3 {n : Nat} (h1 : 100 ≤ n) (h2 : n ≤ 999) : Lib.decDigits n = [UInt8.ofNat (48 + n / 10 / 10), UInt8.ofNat (48 + n / 10 % 10), UInt8.ofNat (48 + n % 10)] := by
  rw [Lib.decDigits, dif_neg (by omega), Lib.decDigits, dif_neg (by omega), Lib.decDigits, dif_pos (by omega)]
  rfl
theorem dig_ne {x : Nat} (h : x < 10) : UInt8.ofNat (48 + x) ≠ 32 := fun e => by
  have := congrArg UInt8.toNat e
  rw [UInt8.toNat_ofNat', Nat.mod_eq_of_lt (show 48 + x < 2 ^ 8 by omega)] at this
  have h2 : (32 : UInt8).toNat = 32 := rfl
  omega
theorem index_skip {c : UInt8} {l : List UInt8} {i : Nat} (hc : c ≠ 32) (h : Lib.index l keyL = (i : Int)) : Lib.index (c :: l) keyL = ((i + 1 : Nat) : Int) := by
  have hp : keyL.isPrefixOf (c :: l) = false := by
    unfold keyL
    rw [List.isPrefixOf]
    rw [show (32 == c) = false from beq_eq_false_iff_ne.2 (fun e => hc e.symm)]
    rfl
  rw [Lib.index, hp, h]
  rw [if_neg (by decide), if_neg (by simp)]
  omega
theorem rec_index {nm : ByteArray} (h1 : 100 < nm.size) (h2 : nm.size ≤ 151) :
    ∃ a b c, (recB nm).data.toList = a :: b :: c :: (keyL ++ (nm.data.toList ++ [10])) ∧ Lib.index (recB nm).data.toList keyL = 3 := by
  have e : (recB nm).data.toList = UInt8.ofNat (48 + (nm.size + 10) / 10 / 10) :: UInt8.ofNat (48 + (nm.size + 10) / 10 % 10) :: UInt8.ofNat (48 + (nm.size + 10) % 10) :: (keyL ++ (nm.data.toList ++ [10])) := by
    unfold recB decB restB
    rw [dec3 (by omega) (by omega), app_list, app_list, app_list]
    rfl
  refine ⟨_, _, _, e, ?_⟩
  rw [e]
  have h0 : Lib.index (keyL ++ (nm.data.toList ++ [10])) keyL = ((0 : Nat) : Int) := by
    show Lib.index (32 :: ([112, 97, 116, 104, 61] ++ (nm.data.toList ++ [10]))) keyL = 0
    rw [Lib.index, if_pos (by unfold keyL; simp [List.isPrefixOf])]
  exact index_skip (dig_ne (by omega)) (index_skip (dig_ne (by omega)) (index_skip (dig_ne (by omega)) h0))
theorem recS_ok : RecOk recS := fun nm h1 h2 => by
  obtain ⟨a, b, c, e, hi⟩ := rec_index h1 h2
  unfold recS
  rw [hi, if_pos (by decide), e]
  show (List.drop 6 (keyL ++ (nm.data.toList ++ [10]))).dropLast = _
  rw [show (6 : Nat) = keyL.length from rfl, List.drop_left, List.dropLast_concat]
theorem recI_ok : RecOk recI := fun nm h1 h2 => by
  obtain ⟨a, b, c, e, hi⟩ := rec_index h1 h2
  unfold recI Lib.cut
  rw [hi, if_pos (by decide), e]
  show Lib.trimSuffix (List.drop 6 (keyL ++ (nm.data.toList ++ [10]))) [10] = _
  rw [show (6 : Nat) = keyL.length from rfl, List.drop_left]
  unfold Lib.trimSuffix Lib.hasSuffix
  rw [if_pos (List.isSuffixOf_iff_suffix.2 ⟨nm.data.toList, rfl⟩), List.length_append, List.length_singleton, Nat.add_sub_cancel, List.take_left]

/-- How many steps are enough. -/
def fuelL (t : List UInt8) : Nat := 2 * t.length + 3
/-- What Unpack tells of a text of at most 20,000 bytes: the code, the place, the files. -/
def outL (p : List UInt8 → List UInt8) (t : List UInt8) : Int × Nat × List FileD :=
  match readL p t (fuelL t) 0 ⟨[], []⟩ with
  | Sum.inl (c, a) => (c, a, [])
  | Sum.inr fs => if (packB fs).data.toList = t then (0, 0, fs) else (3, 0, [])
theorem readL_nil (p : List UInt8 → List UInt8) (fs : List FileD) : readL p [] (fuelL []) 0 ⟨[], []⟩ ≠ Rd.fin fs := by
  show readL p [] (2 + 1) 0 ⟨[], []⟩ ≠ _
  unfold readL
  rw [if_pos (by decide)]
  intro h; cases h
theorem read_of_pack {p q : List UInt8 → List UInt8} (hq : RecOk q) {t : List UInt8} {fs : List FileD} (hr : readL p t (fuelL t) 0 ⟨[], []⟩ = Rd.fin fs) (ht : (packB fs).data.toList = t) : readL q t (fuelL t) 0 ⟨[], []⟩ = Rd.fin fs := by
  by_cases hc : fs.length ≤ 20 ∧ (fs.all fileR = true) ∧ (archB fs).size ≤ 20000
  · have hpk : packB fs = archB fs := by unfold packB; rw [if_pos hc]
    have hl : t = [] ++ entriesL fs ++ List.replicate 1024 0 := by
      rw [← ht, hpk]
      unfold archB zerosB
      rw [app_list]; rfl
    have := readL_files q hq fs [] [] (fun f hf => fileR_path (List.all_eq_true.1 hc.2.1 f hf)) (fuelL t) (by
      have : 1024 ≤ t.length := by rw [hl]; simp only [List.length_append, List.length_replicate]; omega
      unfold fuelL; omega)
    rw [← hl] at this
    exact this
  · have hpk : packB fs = ⟨#[]⟩ := by unfold packB; rw [if_neg hc]
    rw [hpk] at ht
    have ht' : t = [] := ht.symm
    subst ht'
    exact absurd hr (readL_nil p fs)
theorem outL_eq {p q : List UInt8 → List UInt8} (hp : RecOk p) (hq : RecOk q) (t : List UInt8) : outL p t = outL q t := by
  unfold outL
  cases h1 : readL p t (fuelL t) 0 ⟨[], []⟩ with
  | inl ca =>
    obtain ⟨c, a⟩ := ca
    rw [(readL_ill p q t (fuelL t) 0 ⟨[], []⟩ ⟨[], []⟩ c a).1 h1]
  | inr fs =>
    cases h2 : readL q t (fuelL t) 0 ⟨[], []⟩ with
    | inl ca =>
      obtain ⟨c, a⟩ := ca
      have := (readL_ill p q t (fuelL t) 0 ⟨[], []⟩ ⟨[], []⟩ c a).2 h2
      rw [h1] at this; cases this
    | inr gs =>
      show (if (packB fs).data.toList = t then _ else _) = (if (packB gs).data.toList = t then _ else _)
      by_cases ha : (packB fs).data.toList = t
      · have := read_of_pack hq h1 ha
        rw [h2] at this
        cases this
        rfl
      · by_cases hb : (packB gs).data.toList = t
        · have := read_of_pack hp h2 hb
          rw [h1] at this
          cases this
          exact absurd hb ha
        · rw [if_neg ha, if_neg hb]
/-- A field up to its first byte 0, as the library cuts it. -/
theorem cut_text : ∀ l : List UInt8, (Lib.cut l [0]).1 = textL l
  | [] => rfl
  | b :: l => by
    have ih := cut_text l
    by_cases hb : b = 0
    · subst hb
      unfold Lib.cut
      rw [Lib.index, if_pos (by simp [List.isPrefixOf])]
      simp [textL]
    · have hp : [0].isPrefixOf (b :: l) = false := by
        rw [List.isPrefixOf, show ((0 : UInt8) == b) = false from beq_eq_false_iff_ne.2 (fun e => hb e.symm)]; rfl
      have ht : textL (b :: l) = b :: textL l := by unfold textL; rw [List.takeWhile_cons_of_pos (by simpa using hb)]
      rw [ht, ← ih]
      have hge := Lib.index_ge l [0]
      by_cases hi : Lib.index l [0] = -1
      · have hx : Lib.index (b :: l) [0] = -1 := by rw [Lib.index, hp, if_neg (show ¬ (false = true) by decide), if_pos (by simpa using hi)]
        unfold Lib.cut
        rw [hx, hi, if_neg (by decide), if_neg (by decide)]
      · have hx : Lib.index (b :: l) [0] = Lib.index l [0] + 1 := by rw [Lib.index, hp, if_neg (show ¬ (false = true) by decide), if_neg (by simpa using hi)]
        unfold Lib.cut
        rw [hx, if_pos (by omega), if_pos (by omega)]
        show List.take (Lib.index l [0] + 1).toNat (b :: l) = b :: List.take (Lib.index l [0]).toNat l
        rw [show (Lib.index l [0] + 1).toNat = (Lib.index l [0]).toNat + 1 by omega, List.take_succ_cons]
end Go.Proofs.YtephjmlcbpfnaaaGreatDoor.M

/-
  What l03Text and l03Path of the specification do.
-/
namespace Go.Proofs.YtephjmlcbpfnaaaGreatDoor
open Go.RowKit

theorem M.text_hit : ∀ (l : List UInt8) (k : Nat), k < l.length → (∀ j, j < k → l[j]? ≠ some 0) → l[k]? = some 0 → M.textL l = l.take k
  | [], k, hk, _, _ => absurd hk (Nat.not_lt_zero _)
  | b :: l, 0, _, _, h => by
    have hb : b = 0 := by simpa using h
    subst hb
    simp [M.textL]
  | b :: l, k + 1, hk, ha, h => by
    have hb : b ≠ 0 := fun e => ha 0 (Nat.succ_pos _) (by simp [e])
    have ih := M.text_hit l k (by simpa using hk) (fun j hj => by have := ha (j + 1) (by omega); simpa using this) (by simpa using h)
    unfold M.textL at ih ⊢
    rw [List.takeWhile_cons_of_pos (by simpa using hb), ih, List.take_succ_cons]
theorem M.text_all : ∀ {l : List UInt8}, (∀ j, j < l.length → l[j]? ≠ some 0) → M.textL l = l
  | [], _ => rfl
  | b :: l, ha => by
    have hb : b ≠ 0 := fun e => ha 0 (by simp) (by simp [e])
    have ih := M.text_all (l := l) (fun j hj => by have := ha (j + 1) (by simpa using hj); simpa using this)
    unfold M.textL at ih ⊢
    rw [List.takeWhile_cons_of_pos (by simpa using hb), ih]
theorem M.at_list {s : ByteArray} {k : Nat} (h : k < s.size) : s.data.toList[k]? = some s[k] := by
  have h' : k < s.data.toList.length := by rw [← Lib.size_eq]; exact h
  rw [List.getElem?_eq_getElem h']; rfl

set_option maxRecDepth 100000 in
set_option maxHeartbeats 400000 in
theorem sText_any (s : ByteArray) (w : World) (hs : s.size ≤ 100000) :
    Calls Tryz.prog 152 #[.string s] w fun e w' => e = .returned (.string (M.ba (M.textL s.data.toList))) ∧ w = w' := by
  go_enter Tryz.func152, Tryz.ntmps152
  go_wp2
  go_loop [3] (fun i => ∃ k : Nat, i = .int .i64 k ∧ k ≤ s.size ∧ Hid (∀ j, j < k → s.data.toList[j]? ≠ some 0)) (fun i => s.size - (intOf i).toNat)
  case atStart => exact ⟨0, rfl, Nat.zero_le _, fun j hj => absurd hj (Nat.not_lt_zero _)⟩
  case round =>
    obtain ⟨k, rfl, hk, HA⟩ := hrel
    by_cases hlt : k < s.size
    · by_cases hc : s[k] = 0
      · have hE : Hid (M.ba (M.textL s.data.toList) = s.extract 0 k) := by
          show _ = _
          rw [M.text_hit s.data.toList k (by rw [← Lib.size_eq]; exact hlt) HA.out (by rw [M.at_list hlt, hc]), M.cut_mk s 0 k]
          simp [M.ba]
        have hq : (((s[k]'hlt).toNat : Int) == 0) = true := by rw [hc]; rfl
        clear hc
        go_wp2
        go_ret
        exact ⟨by rw [hE.out]; rfl, rfl⟩
      · have H2 : Hid (∀ j, j < k + 1 → s.data.toList[j]? ≠ some 0) := fun j hj => by
          by_cases e : j = k
          · subst e; rw [M.at_list hlt]; exact fun h => hc (Option.some.inj h)
          · exact HA.out j (by omega)
        have hq : (((s[k]'hlt).toNat : Int) == 0) = false := by
          rw [beq_eq_false_iff_ne]
          exact fun h => hc (UInt8.toNat_inj.1 (by show _ = 0; omega))
        clear hc
        go_wp2
        go_round
        case rel => exact ⟨k + 1, by go_num, by omega, H2⟩
        case measure => simp [intOf]; omega
    · have hE : Hid (M.ba (M.textL s.data.toList) = s) := by
        show _ = _
        rw [M.text_all (fun j hj => HA.out j (by rw [← Lib.size_eq] at hj; omega))]
        exact (M.ba_toL s).symm
      go_wp2
      go_ret
      exact ⟨by rw [hE.out]; rfl, rfl⟩

set_option maxRecDepth 100000 in
set_option maxHeartbeats 400000 in
theorem sMax_any (a b : Int) (w : World) : Calls Tryz.prog 151 #[.int .i64 a, .int .i64 b] w fun e w' => e = .returned (.int .i64 (if b < a then a else b)) ∧ w = w' := by
  by_cases h : b < a
  · rw [if_pos h]
    go_enter Tryz.func151, Tryz.ntmps151
    go_wp2
    go_ret
    exact ⟨rfl, rfl⟩
  · rw [if_neg h]
    go_enter Tryz.func151, Tryz.ntmps151
    go_wp2
    go_ret
    exact ⟨rfl, rfl⟩

theorem M.occ_iff {s : ByteArray} {k : Nat} (_ : k + 6 ≤ s.size) : Lib.occAt s.data.toList M.keyL k = ((s.extract k (k + 6)).toList == [32, 112, 97, 116, 104, 61]) := by
  have e : (s.extract k (k + 6)).toList = (s.data.toList.drop k).take 6 := by
    rw [ByteArray.toList_eq, M.cut_mk s k (k + 6), show k + 6 - k = 6 by omega]
  rw [e]
  unfold Lib.occAt
  rw [Bool.eq_iff_iff, List.isPrefixOf_iff_prefix, beq_iff_eq, List.prefix_iff_eq_take]
  exact ⟨fun h => h.symm, fun h => h.symm⟩
theorem M.occ_short {s : ByteArray} {k : Nat} (h : s.size < k + 6) : Lib.occAt s.data.toList M.keyL k = false := by
  unfold Lib.occAt
  rw [Bool.eq_false_iff]
  intro hh
  have := (List.isPrefixOf_iff_prefix.1 hh).length_le
  rw [List.length_drop, ← Lib.size_eq, show M.keyL.length = 6 from rfl] at this
  omega

set_option maxRecDepth 100000 in
set_option maxHeartbeats 400000 in
theorem sRecP_any (s : ByteArray) (w : World) (hs : s.size ≤ 100000) :
    Calls Tryz.prog 106 #[.string s] w fun e w' => e = .returned (.string (M.ba (M.recS s.data.toList))) ∧ w = w' := by
  have HM : Hid (∀ a b W, Calls Tryz.prog 151 #[.int .i64 a, .int .i64 b] W fun e w' => e = .returned (.int .i64 (if b < a then a else b)) ∧ W = w') := sMax_any
  go_enter Tryz.func106, Tryz.ntmps106
  go_wp2
  go_loop [3] (fun i => ∃ k : Nat, i = .int .i64 k ∧ k ≤ s.size + 1 ∧ Hid (∀ j, j < k → Lib.occAt s.data.toList M.keyL j = false)) (fun i => s.size + 1 - (intOf i).toNat)
  case atStart => exact ⟨0, rfl, Nat.zero_le _, fun j hj => absurd hj (Nat.not_lt_zero _)⟩
  case round =>
    obtain ⟨k, rfl, hk, HA⟩ := hrel
    by_cases hlt : k + 6 ≤ s.size
    · have hoc := M.occ_iff hlt
      cases hc : Lib.occAt s.data.toList M.keyL k
      · rw [hc] at hoc
        have hq := hoc.symm
        have H2 : Hid (∀ j, j < k + 1 → Lib.occAt s.data.toList M.keyL j = false) := fun j hj => by
          by_cases e : j = k
          · subst e; exact hc
          · exact HA.out j (by omega)
        clear hc hoc
        go_wp2
        go_round
        case rel => exact ⟨k + 1, by go_num, by omega, H2⟩
        case measure => simp [intOf]; omega
      · rw [hc] at hoc
        have hq := hoc.symm
        have hi : Lib.index s.data.toList M.keyL = (k : Int) := Lib.index_first (by rw [← Lib.size_eq]; omega) hc HA.out
        obtain ⟨z, hz⟩ : ∃ z : Nat, z = if s.size - 1 < k + 6 then k + 6 else s.size - 1 := ⟨_, rfl⟩
        have hz1 : k + 6 ≤ z := by rw [hz]; split <;> omega
        have hz2 : z ≤ s.size := by rw [hz]; split <;> omega
        have HZ : Hid ((if (s.size : Int) - 1 < (k : Int) + 6 then (k : Int) + 6 else (s.size : Int) - 1) = (z : Int)) := by show _ = _; rw [hz]; split <;> split <;> omega
        have hE : Hid (M.ba (M.recS s.data.toList) = s.extract (k + 6) z) := by
          show _ = _
          unfold M.recS
          rw [hi, if_pos (by omega), Int.toNat_natCast, M.cut_mk s (k + 6) z, List.dropLast_eq_take, List.length_drop, ← Lib.size_eq]
          unfold M.ba
          congr 3
          rw [hz]; split <;> omega
        clear hc hoc hi hz
        go_wp2_with fail
        refine (HM.out _ _ _).mono ?_
        rintro e w1 ⟨rfl, rfl⟩
        rw [HZ.out]
        go_wp2
        go_ret
        exact ⟨by rw [hE.out]; rfl, rfl⟩
    · have hE : Hid (M.ba (M.recS s.data.toList) = ⟨#[]⟩) := by
        show _ = _
        unfold M.recS
        rw [Lib.index_none (fun j _ => by
          by_cases h : j < k
          · exact HA.out j h
          · exact M.occ_short (by omega)), if_neg (by decide)]
        rfl
      go_wp2
      go_ret
      exact ⟨by rw [hE.out]; rfl, rfl⟩
end Go.Proofs.YtephjmlcbpfnaaaGreatDoor

/-
  Bytes of a text, and what digits to the base of eight tell at most.
-/
namespace Go.Proofs.YtephjmlcbpfnaaaGreatDoor
open Go.RowKit

theorem M.memAt {q : ByteArray} {k : Nat} (h : k < q.size) : q[k] ∈ q.data.toList := by
  rw [Array.mem_toList_iff]
  exact Array.getElem_mem (xs := q.data) h
theorem M.atMem {q : ByteArray} {c : UInt8} (h : c ∈ q.data.toList) : ∃ k, ∃ h : k < q.size, q[k] = c := by
  rw [Array.mem_toList_iff] at h
  obtain ⟨k, hk, e⟩ := Array.mem_iff_getElem.1 h
  exact ⟨k, hk, e⟩
theorem M.takeAt (s : ByteArray) (k : Nat) (h : k < s.size) : s.data.toList.take (k + 1) = s.data.toList.take k ++ [s[k]] := by
  have hl : k < s.data.toList.length := by rw [← Lib.size_eq]; exact h
  rw [List.take_succ_eq_append_getElem hl]; rfl
theorem M.octV_le (s : ByteArray) (k : Nat) (hk : k ≤ 20) (h : ∀ j, ∀ hj : j < s.size, j < k → M.isOct s[j] = true) : M.octV (s.data.toList.take k) < 8 ^ 20 := by
  refine Nat.lt_of_lt_of_le (M.octV_lt _ (fun c hc => ?_)) (Nat.pow_le_pow_right (by decide) (show (s.data.toList.take k).length ≤ 20 by rw [List.length_take]; omega))
  obtain ⟨j, hj, rfl⟩ := List.getElem_of_mem hc
  rw [List.length_take] at hj
  have hjs : j < s.size := by rw [Lib.size_eq]; omega
  rw [List.getElem_take]
  exact h j hjs (by omega)

end Go.Proofs.YtephjmlcbpfnaaaGreatDoor

/-
  What OctalRead of the specification does.
-/
namespace Go.Proofs.YtephjmlcbpfnaaaGreatDoor
open Go.RowKit

set_option maxRecDepth 100000 in
set_option maxHeartbeats 1600000 in
theorem sOctR_any (s : ByteArray) (w : World) (hs : s.size ≤ maxLen) :
    Calls Tryz.prog 105 #[.string s] w fun e w' => e = .returned (.int .i64 (M.octR s)) ∧ w = w' := by
  unfold maxLen at hs
  by_cases hlo : s.size < 1
  · have hE : Hid (M.octR s = -1) := M.octR_size (.inl hlo)
    go_enter Tryz.func105, Tryz.ntmps105
    go_wp2
    go_ret
    exact ⟨by rw [hE.out]; rfl, rfl⟩
  by_cases hhi : 20 < s.size
  · have hE : Hid (M.octR s = -1) := M.octR_size (.inr hhi)
    go_enter Tryz.func105, Tryz.ntmps105
    go_wp2
    go_ret
    exact ⟨by rw [hE.out]; rfl, rfl⟩
  go_enter Tryz.func105, Tryz.ntmps105
  go_wp2
  go_loop [3, 4] (fun x i => ∃ k n : Nat, k ≤ s.size ∧ i = .int .i64 k ∧ x = .int .i64 n ∧ n < 1152921504606846976 ∧ Hid (n = M.octV (s.data.toList.take k)) ∧ Hid (∀ j, ∀ h : j < s.size, j < k → M.isOct s[j] = true)) (fun _ i => s.size - (intOf i).toNat)
  case atStart => exact ⟨0, 0, Nat.zero_le _, rfl, rfl, by decide, rfl, fun j _ hj => absurd hj (Nat.not_lt_zero _)⟩
  case round =>
    obtain ⟨k, n, hk, rfl, rfl, hn, HV, hall⟩ := hrel
    by_cases hlt : k < s.size
    · rcases (show ((s[k]'hlt).toNat : Int) < 48 ∨ 55 < ((s[k]'hlt).toNat : Int) ∨ (48 ≤ ((s[k]'hlt).toNat : Int) ∧ ((s[k]'hlt).toNat : Int) ≤ 55) from by omega) with ha | ha | ⟨ha, hb⟩
      · have hE : Hid (M.octR s = -1) := M.octR_bad (M.memAt hlt) (M.isOct_lo ha)
        clear hall
        go_wp2
        go_ret
        exact ⟨by rw [hE.out]; rfl, rfl⟩
      · have hE : Hid (M.octR s = -1) := M.octR_bad (M.memAt hlt) (M.isOct_hi ha)
        have e1 : decide (55 < ((s[k]'hlt).toNat : Int)) = true := decide_eq_true ha
        clear hall
        go_wp2
        go_ret
        exact ⟨by rw [hE.out]; rfl, rfl⟩
      · have H : ∀ j, ∀ h : j < s.size, j < k + 1 → M.isOct s[j] = true := fun j h hj => by
          by_cases e : j = k
          · subst e; exact M.isOct_yes ha hb
          · exact hall.out j h (by omega)
        have HH : Hid (∀ j, ∀ h : j < s.size, j < k + 1 → M.isOct s[j] = true) := H
        have HV2 : Hid (8 * n + ((s[k]'hlt).toNat - 48) = M.octV (s.data.toList.take (k + 1))) := by
          show _ = _
          rw [M.takeAt s k hlt, M.octV_snoc, HV.out]
        have hb2 : 8 * n + ((s[k]'hlt).toNat - 48) < 1152921504606846976 := by
          rw [HV2.out]; exact M.octV_le s (k + 1) (by omega) H
        have e1 : decide (55 < ((s[k]'hlt).toNat : Int)) = false := decide_eq_false (by omega)
        clear hall H
        go_wp2
        go_round
        case rel => exact ⟨k + 1, 8 * n + ((s[k]'hlt).toNat - 48), by omega, by go_num, by go_num, hb2, HV2, HH⟩
        case measure => simp [intOf]; omega
    · have hE : Hid (M.octR s = (n : Int)) := by
        show _ = _
        rw [M.octR_good (by omega) (by omega) (fun c hc => by
          obtain ⟨j, hj, rfl⟩ := M.atMem hc
          exact hall.out j hj (by omega)), HV.out, List.take_of_length_le (by rw [← Lib.size_eq]; omega)]
      go_wp2
      go_ret
      exact ⟨by rw [hE.out]; rfl, rfl⟩

end Go.Proofs.YtephjmlcbpfnaaaGreatDoor
