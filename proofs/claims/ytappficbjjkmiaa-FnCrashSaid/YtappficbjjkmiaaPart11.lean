/-
  Numbers in digits to the base of eight, and the sum of a header, with no word of the program.
-/
import Derived.WalkKit
import Derived.Lib.Strings
namespace Go.Proofs.Ytappficbjjkmiaa.M

/-- The last j digits of n to the base of eight, the highest first. -/
def octT : Nat → Nat → List UInt8
  | 0, _ => []
  | j + 1, n => UInt8.ofNat (48 + n / 8 ^ j % 8) :: octT j n
theorem octT_len (j n : Nat) : (octT j n).length = j := by
  induction j with
  | zero => rfl
  | succ j ih => simp [octT, ih]
/-- n in d digits; the empty text, if it has more. -/
def octB (n d : Nat) : ByteArray := if n / 8 ^ d = 0 then ⟨(octT d n).toArray⟩ else ⟨#[]⟩
/-- What Octal tells. -/
def octal (n d : Int) : ByteArray := if 0 ≤ n ∧ 1 ≤ d ∧ d ≤ 20 then octB n.toNat d.toNat else ⟨#[]⟩
theorem octal_no {n d : Int} (h : n < 0 ∨ d < 1 ∨ 20 < d) : octal n d = ⟨#[]⟩ := by unfold octal; rw [if_neg (by omega)]
theorem octal_yes {n d : Nat} (h1 : 1 ≤ d) (h2 : d ≤ 20) : octal n d = octB n d := by unfold octal; rw [if_pos (by omega)]; rfl

def isOct (c : UInt8) : Bool := decide (48 ≤ c.toNat) && decide (c.toNat ≤ 55)
def octV (l : List UInt8) : Nat := l.foldl (fun n c => 8 * n + (c.toNat - 48)) 0
theorem octV_snoc (l : List UInt8) (c : UInt8) : octV (l ++ [c]) = 8 * octV l + (c.toNat - 48) := by simp [octV, List.foldl_append]
theorem octV_lt : ∀ (l : List UInt8), (∀ c ∈ l, isOct c = true) → octV l < 8 ^ l.length := by
  intro l
  have key : ∀ (l : List UInt8) (a k : Nat), a < 8 ^ k → (∀ c ∈ l, isOct c = true) → l.foldl (fun n c => 8 * n + (c.toNat - 48)) a < 8 ^ (k + l.length) := by
    intro l
    induction l with
    | nil => intro a k h _; simpa using h
    | cons c l ih =>
      intro a k h hc
      have h1 := hc c (by simp)
      simp only [isOct, Bool.and_eq_true, decide_eq_true_eq] at h1
      have h2 : 8 * a + (c.toNat - 48) < 8 ^ (k + 1) := by rw [Nat.pow_succ]; omega
      have := ih _ (k + 1) h2 (fun c' hc' => hc c' (by simp [hc']))
      simpa [Nat.add_assoc, Nat.add_comm 1] using this
  have := key l 0 0 (by simp)
  simpa [octV] using this
/-- What OctalRead tells. -/
def octR (s : ByteArray) : Int := if 1 ≤ s.size ∧ s.size ≤ 20 ∧ s.data.toList.all isOct = true then (octV s.data.toList : Int) else -1
theorem octR_size {s : ByteArray} (h : s.size < 1 ∨ 20 < s.size) : octR s = -1 := by unfold octR; rw [if_neg (by omega)]
theorem octR_bad {s : ByteArray} {c : UInt8} (hc : c ∈ s.data.toList) (h : isOct c = false) : octR s = -1 := by
  unfold octR
  rw [if_neg (fun hh => by have := List.all_eq_true.1 hh.2.2 c hc; rw [h] at this; cases this)]
theorem octR_good {s : ByteArray} (h1 : 1 ≤ s.size) (h2 : s.size ≤ 20) (h : ∀ c ∈ s.data.toList, isOct c = true) : octR s = (octV s.data.toList : Int) := by
  unfold octR; rw [if_pos ⟨h1, h2, List.all_eq_true.2 h⟩]
theorem isOct_lo {c : UInt8} (h : (c.toNat : Int) < 48) : isOct c = false := by unfold isOct; rw [decide_eq_false (by omega)]; rfl
theorem isOct_hi {c : UInt8} (h : 55 < (c.toNat : Int)) : isOct c = false := by unfold isOct; rw [decide_eq_false (show ¬ c.toNat ≤ 55 by omega)]; simp
theorem isOct_yes {c : UInt8} (h : 48 ≤ (c.toNat : Int)) (h' : (c.toNat : Int) ≤ 55) : isOct c = true := by unfold isOct; rw [decide_eq_true (by omega), decide_eq_true (by omega)]; rfl

/-- What the byte at a place counts for in a header's sum. -/
def sumC (i : Nat) (c : UInt8) : Nat := if 148 ≤ i ∧ i < 156 then 32 else c.toNat
/-- The sum of a header's first k bytes. -/
def sumK (s : ByteArray) : Nat → Nat
  | 0 => 0
  | k + 1 => sumK s k + sumC k (s.data.toList.getD k 0)
def sumH (s : ByteArray) : Nat := sumK s s.size
theorem sumK_le (s : ByteArray) : ∀ k, sumK s k ≤ 255 * k
  | 0 => Nat.le_refl _
  | k + 1 => by
    have h := sumK_le s k
    have hc : sumC k (s.data.toList.getD k 0) ≤ 255 := by
      unfold sumC
      split
      · omega
      · have := (s.data.toList.getD k 0).toNat_lt; omega
    simp only [sumK]; omega
theorem at_getD {s : ByteArray} {k : Nat} (h : k < s.size) : s.data.toList.getD k 0 = s[k] := by
  have h' : k < s.data.toList.length := by simpa using h
  rw [List.getD_eq_getElem?_getD, List.getElem?_eq_getElem h', Option.getD_some]; rfl
theorem sumK_in {s : ByteArray} {k : Nat} (h1 : 148 ≤ k) (h2 : k < 156) : sumK s (k + 1) = sumK s k + 32 := by
  simp only [sumK, sumC]; rw [if_pos ⟨h1, h2⟩]
theorem sumK_out {s : ByteArray} {k : Nat} (hk : k < s.size) (h : k < 148 ∨ 156 ≤ k) : sumK s (k + 1) = sumK s k + (s[k]).toNat := by
  simp only [sumK, sumC]; rw [if_neg (by omega), at_getD hk]
end Go.Proofs.Ytappficbjjkmiaa.M

/-
  Digits to the base of eight, as few as may be, with no word of the program.
-/
namespace Go.Proofs.Ytappficbjjkmiaa.M

/-- L is how many digits n has to the base of eight, one at least. -/
def OctL (n L : Nat) : Prop := 1 ≤ L ∧ n < 8 ^ L ∧ (L = 1 ∨ 8 ^ (L - 1) ≤ n)
theorem OctL.pos {n L : Nat} (h : OctL n L) : 1 ≤ L := h.1
theorem pow8_le {a b : Nat} (h : a ≤ b) : 8 ^ a ≤ 8 ^ b := Nat.pow_le_pow_right (by decide) h
theorem OctL.fits {n L d : Nat} (h : OctL n L) (hd : L ≤ d) : n / 8 ^ d = 0 := Nat.div_eq_of_lt (Nat.lt_of_lt_of_le h.2.1 (pow8_le hd))
theorem OctL.more {n L d : Nat} (h : OctL n L) (h1 : 1 ≤ d) (hd : d < L) : n / 8 ^ d ≠ 0 := by
  rcases h.2.2 with e | e
  · omega
  · have h8 : 8 ^ d ≤ n := Nat.le_trans (pow8_le (by omega)) e
    exact Nat.ne_of_gt (Nat.div_pos h8 (Nat.pow_pos (by decide)))
theorem octT_pad {n L : Nat} (h : n < 8 ^ L) : ∀ k, octT (L + k) n = List.replicate k 48 ++ octT L n
  | 0 => by simp
  | k + 1 => by
    have e : n / 8 ^ (L + k) = 0 := Nat.div_eq_of_lt (Nat.lt_of_lt_of_le h (pow8_le (by omega)))
    rw [show L + (k + 1) = (L + k) + 1 by omega, octT, octT_pad h k, e, List.replicate_succ]
    rfl
theorem OctL.text {n L d : Nat} (h : OctL n L) (hd : L ≤ d) : octB n d = ⟨(List.replicate (d - L) (48 : UInt8) ++ octT L n).toArray⟩ := by
  unfold M.octB
  rw [if_pos (h.fits hd), ← octT_pad h.2.1 (d - L), show L + (d - L) = d by omega]
theorem OctL.text_no {n L d : Nat} (h : OctL n L) (h1 : 1 ≤ d) (hd : d < L) : octB n d = ⟨#[]⟩ := by
  unfold M.octB
  rw [if_neg (h.more h1 hd)]
/-- The last digit that a loop over the digits writes ends them. -/
theorem OctL.last {n j : Nat} (h1 : n / 8 ^ j < 8) (h2 : j = 0 ∨ 8 ≤ n / 8 ^ (j - 1)) : OctL n (j + 1) := by
  refine ⟨by omega, ?_, ?_⟩
  · rw [Nat.pow_succ]
    rw [Nat.div_lt_iff_lt_mul (Nat.pow_pos (by decide))] at h1
    omega
  · rcases h2 with rfl | h2
    · exact .inl rfl
    · rcases Nat.eq_zero_or_pos j with rfl | hj
      · exact .inl rfl
      · right
        rw [Nat.le_div_iff_mul_le (Nat.pow_pos (by decide))] at h2
        rw [show j + 1 - 1 = (j - 1) + 1 by omega, Nat.pow_succ]
        omega
theorem OctL.le {n L : Nat} (h : OctL n L) (hn : n < 8 ^ 21) : L ≤ 21 := by
  rcases h.2.2 with e | e
  · omega
  · have := Nat.lt_of_le_of_lt e hn
    have := (Nat.pow_lt_pow_iff_right (show 1 < 8 by decide)).1 this
    omega
theorem OctL.of (n : Nat) : ∃ L, OctL n L := by
  have key : ∀ k, n < 8 ^ (k + 1) → ∃ L, OctL n L := by
    intro k
    induction k with
    | zero => intro h; exact ⟨1, Nat.le_refl _, h, .inl rfl⟩
    | succ k ih =>
      intro h
      by_cases e : n < 8 ^ (k + 1)
      · exact ih e
      · exact ⟨k + 2, by omega, h, .inr (by simpa using Nat.le_of_not_lt e)⟩
  refine key n ?_
  exact Nat.lt_of_lt_of_le (Nat.lt_pow_self (by decide : 1 < 8)) (pow8_le (by omega))
theorem set_oct (m j n : Nat) (c : UInt8) (hc : c = UInt8.ofNat (48 + n / 8 ^ j % 8)) : (List.replicate (m + 1) (0 : UInt8) ++ octT j n).set m c = List.replicate m 0 ++ octT (j + 1) n := by
  rw [List.set_append_left _ _ (by simp), List.replicate_succ', List.set_append_right _ _ (by simp)]
  simp [octT, hc]
theorem div_step (n j : Nat) : n / 8 ^ j / 8 = n / 8 ^ (j + 1) := by rw [Nat.div_div_eq_div_mul, ← Nat.pow_succ]
end Go.Proofs.Ytappficbjjkmiaa.M

/-
  A header's bytes, with no word of the program.
-/
namespace Go.Proofs.Ytappficbjjkmiaa.M
set_option linter.unusedSimpArgs false

def zerosB (n : Nat) : ByteArray := ⟨(List.replicate n 0).toArray⟩
/-- A header's bytes ahead of its sum. -/
def headA (name : ByteArray) (size mode time : Nat) : ByteArray :=
  name ++ zerosB (100 - name.size) ++ octB mode 7 ++ ⟨#[0]⟩ ++ (octB 0 7 ++ ⟨#[0]⟩) ++ (octB 0 7 ++ ⟨#[0]⟩) ++ octB size 11 ++ ⟨#[0]⟩ ++ octB time 11 ++ ⟨#[0]⟩
/-- A header's bytes behind its sum. -/
def headZ (kind : Nat) : ByteArray := (⟨#[UInt8.ofNat kind]⟩ : ByteArray) ++ zerosB 100 ++ ⟨#[117, 115, 116, 97, 114, 0, 48, 48]⟩ ++ zerosB 247
/-- A header. -/
def head (name : ByteArray) (size mode time kind : Nat) : ByteArray :=
  headA name size mode time ++ octB (sumH (headA name size mode time ++ zerosB 8 ++ headZ kind)) 6 ++ ⟨#[0, 32]⟩ ++ headZ kind
/-- What HeaderOf tells. -/
def headerOf (name : ByteArray) (size mode time kind : Int) : ByteArray :=
  if name.size ≤ 100 ∧ (0 ≤ size ∧ size ≤ 8589934591) ∧ (0 ≤ mode ∧ mode ≤ 2097151) ∧ (0 ≤ time ∧ time ≤ 8589934591) ∧ (0 ≤ kind ∧ kind ≤ 255) then head name size.toNat mode.toNat time.toNat kind.toNat else ⟨#[]⟩
theorem octB_size (n d : Nat) : (octB n d).size ≤ d := by
  unfold octB
  split
  · rw [Lib.size_eq]; simp [octT_len]
  · exact Nat.zero_le _
theorem zerosB_size (n : Nat) : (zerosB n).size = n := by rw [Lib.size_eq]; simp [zerosB]
theorem octB_full {n d : Nat} (h : n < 8 ^ d) : octB n d = ⟨(octT d n).toArray⟩ := by
  unfold octB; rw [if_pos (Nat.div_eq_of_lt h)]
theorem octB_none {n d : Nat} (h : 8 ^ d ≤ n) : octB n d = ⟨#[]⟩ := by
  unfold octB; rw [if_neg (Nat.ne_of_gt (Nat.div_pos h (Nat.pow_pos (by decide))))]
/-- Octal of so many digits is empty just where the number has more, or is none. -/
theorem octal_ok {n : Int} {d : Nat} (h0 : 0 ≤ n) (h1 : n < (8 ^ d : Nat)) (hd : 1 ≤ d) (hd' : d ≤ 20) : octal n d = ⟨(octT d n.toNat).toArray⟩ := by
  unfold octal
  rw [if_pos (by omega)]
  exact octB_full (by show n.toNat < 8 ^ (d : Int).toNat; rw [Int.toNat_natCast]; omega)
theorem octal_bad {n : Int} {d : Nat} (h : n < 0 ∨ ((8 ^ d : Nat) : Int) ≤ n) (hd : 1 ≤ d) (hd' : d ≤ 20) : octal n d = ⟨#[]⟩ := by
  rcases h with h | h
  · exact octal_no (.inl h)
  · have hp : 0 < 8 ^ d := Nat.pow_pos (by decide)
    obtain ⟨p, e⟩ : ∃ p, p = 8 ^ d := ⟨_, rfl⟩
    rw [← e] at h hp
    unfold octal
    rw [if_pos (by omega)]
    exact octB_none (by rw [Int.toNat_natCast, ← e]; omega)

/-- L with these bytes from a place on. -/
def over (L : List UInt8) (o : Nat) (X : List UInt8) : List UInt8 := L.take o ++ X ++ L.drop (o + X.length)
theorem over_len {L X : List UInt8} {o : Nat} (h : o + X.length ≤ L.length) : (over L o X).length = L.length := by
  unfold over; simp; omega
theorem over_all {L X : List UInt8} (h : L.length = X.length) : over L 0 X = X := by
  unfold over
  rw [List.take_zero, List.nil_append, List.drop_eq_nil_of_le (by omega), List.append_nil]
theorem over_mid {A Z X B : List UInt8} {o : Nat} (ho : A.length = o) (h : Z.length = X.length) : over (A ++ Z ++ B) o X = A ++ X ++ B := by
  subst ho
  unfold over
  have e : (A ++ Z ++ B).drop (A.length + X.length) = B := by rw [← h, ← List.length_append, List.drop_left]
  rw [e, show A ++ Z ++ B = A ++ (Z ++ B) from List.append_assoc _ _ _, List.take_left]
theorem zer_split (a b : Nat) : List.replicate (a + b) (0 : UInt8) = List.replicate a 0 ++ List.replicate b 0 := List.replicate_append_replicate.symm
/-- What the program's header holds before its sum is put in. -/
def pre (nm mo no sz tm : List UInt8) (kd : UInt8) : List UInt8 :=
  over ((over (over (over (over (over (over (List.replicate 512 0) 0 nm) 100 mo) 108 no) 116 no) 124 sz) 136 tm).set 156 kd) 257 [117, 115, 116, 97, 114, 0, 48, 48]
/-- Ahead of the sum. -/
def preA (nm mo no sz tm : List UInt8) : List UInt8 := nm ++ List.replicate (100 - nm.length) 0 ++ mo ++ [0] ++ no ++ [0] ++ no ++ [0] ++ sz ++ [0] ++ tm ++ [0]
/-- Behind the sum. -/
def preZ (kd : UInt8) : List UInt8 := [kd] ++ List.replicate 100 0 ++ [117, 115, 116, 97, 114, 0, 48, 48] ++ List.replicate 247 0
theorem preA_len {nm mo no sz tm : List UInt8} (h0 : nm.length ≤ 100) (h1 : mo.length = 7) (h2 : no.length = 7) (h3 : sz.length = 11) (h4 : tm.length = 11) : (preA nm mo no sz tm).length = 148 := by
  unfold preA; simp only [List.length_append, List.length_replicate, List.length_singleton]; omega
theorem preZ_len (kd : UInt8) : (preZ kd).length = 356 := by
  unfold preZ; simp only [List.length_append, List.length_replicate, List.length_cons, List.length_nil]
theorem pre_eq {nm mo no sz tm : List UInt8} {kd : UInt8} (h0 : nm.length ≤ 100) (h1 : mo.length = 7) (h2 : no.length = 7) (h3 : sz.length = 11) (h4 : tm.length = 11) :
    pre nm mo no sz tm kd = preA nm mo no sz tm ++ List.replicate 8 0 ++ preZ kd := by
  unfold pre
  have e0 : over (List.replicate 512 0) 0 nm = nm ++ List.replicate (100 - nm.length) 0 ++ List.replicate 7 0 ++ List.replicate 405 0 := by
    rw [show (512 : Nat) = nm.length + ((100 - nm.length) + (7 + 405)) by omega, zer_split, zer_split, zer_split]
    rw [show ∀ P Q : List UInt8, over (P ++ Q) 0 nm = over ([] ++ P ++ Q) 0 nm from fun _ _ => rfl, over_mid (o := 0) rfl List.length_replicate]
    simp only [List.nil_append, List.append_assoc]
  rw [e0]
  rw [over_mid (by simp only [List.length_append, List.length_replicate, List.length_cons, List.length_nil]; omega) (by rw [List.length_replicate, h1])]
  rw [show (405 : Nat) = 1 + (7 + 397) by rfl, zer_split 1, zer_split 7]
  rw [show ∀ A B : List UInt8, A ++ (List.replicate 1 0 ++ (List.replicate 7 0 ++ B)) = (A ++ [0]) ++ List.replicate 7 0 ++ B from fun A B => by simp only [List.append_assoc]; rfl]
  rw [over_mid (by simp only [List.length_append, List.length_replicate, List.length_cons, List.length_nil]; omega) (by rw [List.length_replicate, h2])]
  rw [show (397 : Nat) = 1 + (7 + 389) by rfl, zer_split 1, zer_split 7]
  rw [show ∀ A B : List UInt8, A ++ (List.replicate 1 0 ++ (List.replicate 7 0 ++ B)) = (A ++ [0]) ++ List.replicate 7 0 ++ B from fun A B => by simp only [List.append_assoc]; rfl]
  rw [over_mid (by simp only [List.length_append, List.length_replicate, List.length_cons, List.length_nil]; omega) (by rw [List.length_replicate, h2])]
  rw [show (389 : Nat) = 1 + (11 + 377) by rfl, zer_split 1, zer_split 11]
  rw [show ∀ A B : List UInt8, A ++ (List.replicate 1 0 ++ (List.replicate 11 0 ++ B)) = (A ++ [0]) ++ List.replicate 11 0 ++ B from fun A B => by simp only [List.append_assoc]; rfl]
  rw [over_mid (by simp only [List.length_append, List.length_replicate, List.length_cons, List.length_nil]; omega) (by rw [List.length_replicate, h3])]
  rw [show (377 : Nat) = 1 + (11 + 365) by rfl, zer_split 1, zer_split 11]
  rw [show ∀ A B : List UInt8, A ++ (List.replicate 1 0 ++ (List.replicate 11 0 ++ B)) = (A ++ [0]) ++ List.replicate 11 0 ++ B from fun A B => by simp only [List.append_assoc]; rfl]
  rw [over_mid (by simp only [List.length_append, List.length_replicate, List.length_cons, List.length_nil]; omega) (by rw [List.length_replicate, h4])]
  rw [show (365 : Nat) = 1 + (8 + (1 + 355)) by rfl, zer_split 1, zer_split 8, zer_split 1]
  rw [show ∀ A B : List UInt8, A ++ (List.replicate 1 0 ++ (List.replicate 8 0 ++ (List.replicate 1 0 ++ B))) = (A ++ [0] ++ List.replicate 8 0) ++ ([0] ++ B) from fun A B => by simp only [List.append_assoc]; rfl]
  rw [List.set_append_right _ _ (by simp only [List.length_append, List.length_replicate, List.length_cons, List.length_nil]; omega)]
  rw [show ∀ A : List UInt8, A.length = 156 → ([0] ++ List.replicate 355 0 : List UInt8).set (156 - A.length) kd = [kd] ++ List.replicate 355 0 from fun A h => by rw [h]; rfl]
  · rw [show (355 : Nat) = 100 + (8 + 247) by rfl, zer_split 100, zer_split 8]
    rw [show ∀ A B : List UInt8, A ++ ([kd] ++ (List.replicate 100 0 ++ (List.replicate 8 0 ++ B))) = (A ++ [kd] ++ List.replicate 100 0) ++ List.replicate 8 0 ++ B from fun A B => by simp only [List.append_assoc]]
    rw [over_mid (by simp only [List.length_append, List.length_replicate, List.length_cons, List.length_nil]; omega) (by rw [List.length_replicate]; rfl)]
    unfold preA preZ
    simp only [List.append_assoc]
  · simp only [List.length_append, List.length_replicate, List.length_cons, List.length_nil]; omega
theorem post_eq {nm mo no sz tm sm : List UInt8} {kd : UInt8} (h0 : nm.length ≤ 100) (h1 : mo.length = 7) (h2 : no.length = 7) (h3 : sz.length = 11) (h4 : tm.length = 11) (h5 : sm.length = 8) :
    over (pre nm mo no sz tm kd) 148 sm = preA nm mo no sz tm ++ sm ++ preZ kd := by
  rw [pre_eq h0 h1 h2 h3 h4]
  exact over_mid (preA_len h0 h1 h2 h3 h4) (by rw [List.length_replicate, h5])
theorem ba_L (a b : List UInt8) : (⟨a.toArray⟩ : ByteArray) ++ ⟨b.toArray⟩ = ⟨(a ++ b).toArray⟩ := by
  apply ByteArray.ext
  simp [ByteArray.data_append]
theorem ba_toL (s : ByteArray) : s = ⟨s.data.toList.toArray⟩ := by
  apply ByteArray.ext; simp
/-- A header of what fits, as a list. -/
theorem head_L {name : ByteArray} {size mode time kind : Nat} (h1 : mode < 8 ^ 7) (h2 : size < 8 ^ 11) (h3 : time < 8 ^ 11) :
    headA name size mode time = ⟨(preA name.data.toList (octT 7 mode) (octT 7 0) (octT 11 size) (octT 11 time)).toArray⟩ ∧ headZ kind = ⟨(preZ (UInt8.ofNat kind)).toArray⟩ := by
  constructor
  · unfold headA preA zerosB
    rw [octB_full h1, octB_full h2, octB_full h3, octB_full (n := 0) (by decide), Lib.size_eq]
    conv => lhs; rw [ba_toL name]
    simp only [ba_L, List.append_assoc]
  · unfold headZ preZ zerosB
    simp only [ba_L, List.append_assoc]
theorem head_sum_lt {L : List UInt8} (h : L.length = 512) : sumH ⟨L.toArray⟩ < 8 ^ 6 := by
  have := sumK_le ⟨L.toArray⟩ (ByteArray.size ⟨L.toArray⟩)
  unfold sumH
  rw [Lib.size_eq] at this ⊢
  simp only [h] at this ⊢
  omega
/-- What the program's header holds in the end. -/
theorem head_final {name : ByteArray} {size mode time kind : Nat} (h0 : name.size ≤ 100) (h1 : mode < 8 ^ 7) (h2 : size < 8 ^ 11) (h3 : time < 8 ^ 11) {P : List UInt8}
    (hP : P = pre name.data.toList (octT 7 mode) (octT 7 0) (octT 11 size) (octT 11 time) (UInt8.ofNat kind)) :
    head name size mode time kind = ⟨(over P 148 (octB (sumH ⟨P.toArray⟩) 6 ++ ⟨#[0, 32]⟩ : ByteArray).data.toList).toArray⟩ := by
  have hn : name.data.toList.length ≤ 100 := by rw [← Lib.size_eq]; exact h0
  have he := pre_eq (kd := UInt8.ofNat kind) hn (octT_len 7 mode) (octT_len 7 0) (octT_len 11 size) (octT_len 11 time)
  have hl : P.length = 512 := by
    rw [hP, he, List.length_append, List.length_append, preA_len hn (octT_len _ _) (octT_len _ _) (octT_len _ _) (octT_len _ _), preZ_len, List.length_replicate]
  have hq := head_sum_lt hl
  unfold head
  rw [(head_L (kind := kind) h1 h2 h3).1, (head_L (name := name) (kind := kind) h1 h2 h3).2]
  have e1 : (⟨(preA name.data.toList (octT 7 mode) (octT 7 0) (octT 11 size) (octT 11 time)).toArray⟩ : ByteArray) ++ zerosB 8 ++ ⟨(preZ (UInt8.ofNat kind)).toArray⟩ = ⟨P.toArray⟩ := by
    rw [hP, he]; unfold zerosB; rw [ba_L, ba_L]
  rw [e1]
  generalize sumH ⟨P.toArray⟩ = q at hq
  rw [octB_full hq]
  rw [show (⟨#[0, 32]⟩ : ByteArray) = ⟨[(0 : UInt8), 32].toArray⟩ from rfl, ba_L (octT 6 q), hP]
  rw [show ∀ l : List UInt8, (⟨l.toArray⟩ : ByteArray).data.toList = l from fun l => by simp]
  rw [post_eq hn (octT_len _ _) (octT_len _ _) (octT_len _ _) (octT_len _ _) (by simp [octT_len])]
  simp only [ba_L, List.append_assoc]
end Go.Proofs.Ytappficbjjkmiaa.M
