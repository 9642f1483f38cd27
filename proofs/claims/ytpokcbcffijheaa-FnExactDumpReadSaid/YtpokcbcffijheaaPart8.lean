/-
  A dump's bytes, with no word of the program.
-/
import Derived.Test.YtpokcbcffijheaaDumpMath
import Derived.Test.YtpokcbcffijheaaPart3
import Derived.Test.YtpokcbcffijheaaPart7
import Derived.Test.YtpokcbcffijheaaCanonMath
namespace Go.Proofs.Ytpokcbcffijheaa
open Go.RowKit

/-- The bytes of a number. -/
def M.eL (n : Int) : List UInt8 := M.enc (M.foldZ n)
def M.num (n : Int) : ByteArray := ⟨(M.eL n).toArray⟩
/-- Those of numbers, one behind the other. -/
def M.numsL (ns : List Int) : List UInt8 := ns.flatMap M.eL
def M.nums (ns : List Int) : ByteArray := ⟨(M.numsL ns).toArray⟩
theorem M.num_size (n : Int) : (M.num n).size ≤ 11 := M.enc_size _
theorem M.numsL_len (ns : List Int) : (M.numsL ns).length ≤ 11 * ns.length := by
  induction ns with
  | nil => exact Nat.le_refl _
  | cons n ns ih =>
    have h : (M.eL n).length ≤ 11 := (M.enc_len _).2
    simp only [M.numsL, List.flatMap_cons, List.length_append, List.length_cons] at ih ⊢
    omega
theorem M.nums_size (ns : List Int) : (M.nums ns).size ≤ 11 * ns.length := M.numsL_len ns
theorem M.nums_toList (ns : List Int) : (M.nums ns).data.toList = M.numsL ns := by simp [M.nums]
theorem M.num_toList (n : Int) : (M.num n).data.toList = M.eL n := by simp [M.num]
theorem M.numsL_snoc (ns : List Int) (n : Int) : M.numsL (ns ++ [n]) = M.numsL ns ++ M.eL n := by simp [M.numsL]
def M.partL (p : M.PartD) : List UInt8 := M.numsL [p.q, p.l, p.s, p.c]
/-- The bytes ahead of the parts. -/
def M.dheadL (d : M.DumpD) : List UInt8 := M.eL d.id ++ (M.putText d.host).data.toList ++ M.numsL [d.run, d.lev, d.base, d.day, d.many, d.crc, (d.ps.length : Int)]
def M.dumpL (d : M.DumpD) : List UInt8 := M.dheadL d ++ d.ps.flatMap M.partL
/-- The bytes that DumpBytes tells. -/
def M.dumpT (d : M.DumpD) : ByteArray := if M.dumpR d = true then ⟨(M.dumpL d).toArray⟩ else ⟨#[]⟩
theorem M.dumpR_host {d : M.DumpD} (h : M.dumpR d = true) : M.nameR d.host = true := by
  unfold M.dumpR at h
  simp only [Bool.and_eq_true] at h
  exact h.1.1.1.1.1.1.1.1.2
theorem M.dumpR_parts {d : M.DumpD} (h : M.dumpR d = true) : d.ps.length ≤ 8 ∧ ∀ p ∈ d.ps, M.partR p = true := by
  unfold M.dumpR at h
  simp only [Bool.and_eq_true] at h
  exact ⟨of_decide_eq_true h.1.2, List.all_eq_true.1 h.2⟩
theorem M.partR_iff {p : M.PartD} : M.partR p = true ↔ (0 ≤ p.q ∧ p.q ≤ 7) ∧ (0 ≤ p.l ∧ p.l ≤ 1000000) ∧ (0 ≤ p.s ∧ p.s ≤ 300) ∧ (0 ≤ p.c ∧ p.c ≤ 300) := by
  unfold M.partR
  simp only [Bool.and_eq_true, decide_eq_true_eq, and_assoc]
theorem M.dumpR_nums {d : M.DumpD} (h : M.dumpR d = true) : (1 ≤ d.id ∧ d.id ≤ 1000000) ∧ (0 ≤ d.run ∧ d.run ≤ 1000000) ∧ (0 ≤ d.lev ∧ d.lev ≤ 5) ∧ (0 ≤ d.base ∧ d.base ≤ 1000000) ∧ (0 ≤ d.day ∧ d.day ≤ 1000000000) ∧ (0 ≤ d.many ∧ d.many ≤ 20000) ∧ (0 ≤ d.crc ∧ d.crc ≤ 4294967295) := by
  unfold M.dumpR at h
  simp only [Bool.and_eq_true, decide_eq_true_eq] at h
  obtain ⟨⟨⟨⟨⟨⟨⟨⟨⟨h1, -⟩, h2⟩, h3⟩, h4⟩, h5⟩, h6⟩, h7⟩, -⟩, -⟩ := h
  exact ⟨h1, h2, h3, h4, h5, h6, h7⟩
theorem M.nameR_len {s : ByteArray} (h : M.nameR s = true) : s.size ≤ 20 := by
  unfold M.nameR at h
  simp only [Bool.and_eq_true, decide_eq_true_eq] at h
  omega
theorem M.putText_size2 (s : ByteArray) : (M.putText s).size ≤ 11 + s.size := by
  unfold M.putText
  have := M.enc_size (M.foldZ (s.size : Int))
  split
  · exact Nat.zero_le _
  · rw [ByteArray.size_append]; omega
theorem M.ba_ext {a b : ByteArray} (h : a.data.toList = b.data.toList) : a = b := by
  cases a; cases b
  simp only at h
  rw [ByteArray.mk.injEq]
  exact Array.toList_inj.1 h
theorem M.app_toList (a b : ByteArray) : (a ++ b).data.toList = a.data.toList ++ b.data.toList := by
  rw [ByteArray.data_append, Array.toList_append]
theorem M.partsL_len (ps : List M.PartD) : (ps.flatMap M.partL).length ≤ 44 * ps.length := by
  induction ps with
  | nil => exact Nat.le_refl _
  | cons p ps ih =>
    have h : (M.partL p).length ≤ 44 := M.numsL_len _
    simp only [List.flatMap_cons, List.length_append, List.length_cons]
    omega
theorem M.dumpT_size (d : M.DumpD) : (M.dumpT d).size ≤ 1000 := by
  unfold M.dumpT
  split
  · next h =>
    rw [Lib.size_eq]
    show (M.dumpL d).length ≤ 1000
    unfold M.dumpL M.dheadL
    have h1 := M.partsL_len d.ps
    have h2 := (M.dumpR_parts h).1
    have h3 := M.putText_size2 d.host
    have h4 := M.nameR_len (M.dumpR_host h)
    have h5 := M.numsL_len [d.run, d.lev, d.base, d.day, d.many, d.crc, (d.ps.length : Int)]
    have h6 : (M.eL d.id).length ≤ 11 := (M.enc_len _).2
    rw [Lib.size_eq] at h3
    simp only [List.length_append, List.length_cons, List.length_nil] at h5 ⊢
    omega
  · exact Nat.zero_le _
end Go.Proofs.Ytpokcbcffijheaa

/-
  How a dump is read, with no word of the program's running: the program and the specification take the same texts.
-/
namespace Go.Proofs.Ytpokcbcffijheaa
open Go.RowKit

/-- Reads a number at a place; none: what came ahead was wrong. -/
def M.rnum (t : ByteArray) : Option Nat → Int × Option Nat
  | none => (0, none)
  | some a => if (M.num3 t (a : Int)).2.2 = 0 then ((M.num3 t (a : Int)).1, some (M.num3 t (a : Int)).2.1.toNat) else (0, none)
def M.rtxt (t : ByteArray) : Option Nat → ByteArray × Option Nat
  | none => (⟨#[]⟩, none)
  | some a => if (M.txt3 t (a : Int)).2.2 = 0 then ((M.txt3 t (a : Int)).1, some (M.txt3 t (a : Int)).2.1.toNat) else (⟨#[]⟩, none)
def M.rpart (t : ByteArray) (st : Option Nat) : M.PartD × Option Nat :=
  let a := M.rnum t st
  let b := M.rnum t a.2
  let c := M.rnum t b.2
  let e := M.rnum t c.2
  (⟨a.1, b.1, c.1, e.1⟩, e.2)
def M.rparts (t : ByteArray) : Nat → Option Nat → List M.PartD × Option Nat
  | 0, st => ([], st)
  | n + 1, st => ((M.rparts t n st).1 ++ [(M.rpart t (M.rparts t n st).2).1], (M.rpart t (M.rparts t n st).2).2)
/-- Reads all ahead of the parts, and how many these are. -/
def M.rhead (t : ByteArray) : M.DumpD × Int × Option Nat :=
  let a := M.rnum t (some 0)
  let b := M.rtxt t a.2
  let c := M.rnum t b.2
  let d := M.rnum t c.2
  let e := M.rnum t d.2
  let f := M.rnum t e.2
  let g := M.rnum t f.2
  let h := M.rnum t g.2
  let n := M.rnum t h.2
  (⟨a.1, b.1, c.1, d.1, e.1, f.1, g.1, h.1, []⟩, n.1, n.2)
/-- These bytes stand from a place on to another one. -/
def M.Span (t : ByteArray) (a : Nat) (L : List UInt8) (b : Nat) : Prop := t.data.toList.drop a = L ++ t.data.toList.drop b ∧ b ≤ t.size
theorem M.Span.app {t : ByteArray} {a b c : Nat} {L K : List UInt8} (h : M.Span t a L b) (k : M.Span t b K c) : M.Span t a (L ++ K) c :=
  ⟨by rw [h.1, k.1, List.append_assoc], k.2⟩
theorem M.rnum_span {t : ByteArray} {st : Option Nat} {b : Nat} (h : (M.rnum t st).2 = some b) : ∃ a, st = some a ∧ M.Span t a (M.eL (M.rnum t st).1) b := by
  cases st with
  | none => cases h
  | some a =>
    refine ⟨a, rfl, ?_⟩
    unfold M.rnum at h ⊢
    by_cases hc : (M.num3 t (a : Int)).2.2 = 0
    · simp only [hc, if_true] at h ⊢
      have hk := M.num_canon hc
      obtain ⟨b1, b2, -⟩ := M.num3_ok hc
      obtain rfl := Option.some.inj h
      exact ⟨hk, by omega⟩
    · simp [hc] at h
theorem M.rtxt_span {t : ByteArray} {st : Option Nat} {b : Nat} (h : (M.rtxt t st).2 = some b) : ∃ a, st = some a ∧ M.Span t a (M.putText (M.rtxt t st).1).data.toList b := by
  cases st with
  | none => cases h
  | some a =>
    refine ⟨a, rfl, ?_⟩
    unfold M.rtxt at h ⊢
    by_cases hc : (M.txt3 t (a : Int)).2.2 = 0
    · simp only [hc, if_true] at h ⊢
      obtain ⟨hk, b1, b2, -⟩ := M.txt_canon hc
      obtain rfl := Option.some.inj h
      exact ⟨hk, by omega⟩
    · simp [hc] at h
theorem M.rpart_span {t : ByteArray} {st : Option Nat} {b : Nat} (h : (M.rpart t st).2 = some b) : ∃ a, st = some a ∧ M.Span t a (M.partL (M.rpart t st).1) b := by
  unfold M.rpart at h ⊢
  simp only at h ⊢
  obtain ⟨a3, h3, s4⟩ := M.rnum_span h
  obtain ⟨a2, h2, s3⟩ := M.rnum_span h3
  obtain ⟨a1, h1, s2⟩ := M.rnum_span h2
  obtain ⟨a0, h0, s1⟩ := M.rnum_span h1
  refine ⟨a0, h0, ?_⟩
  have := ((s1.app s2).app s3).app s4
  unfold M.partL M.numsL
  simpa using this
theorem M.rparts_span {t : ByteArray} : ∀ (n : Nat) {st : Option Nat} {b : Nat}, (∀ a, st = some a → a ≤ t.size) → (M.rparts t n st).2 = some b → ∃ a, st = some a ∧ M.Span t a ((M.rparts t n st).1.flatMap M.partL) b
  | 0, st, b, hle, h => by
    have h : st = some b := h
    exact ⟨b, h, by simp [M.Span, M.rparts, hle b h]⟩
  | n + 1, st, b, hle, h => by
    have h : (M.rpart t (M.rparts t n st).2).2 = some b := h
    obtain ⟨a1, h1, s1⟩ := M.rpart_span h
    obtain ⟨a0, h0, s0⟩ := M.rparts_span n hle h1
    refine ⟨a0, h0, ?_⟩
    have := s0.app s1
    unfold M.rparts
    simpa [List.flatMap_append] using this
theorem M.rparts_len (t : ByteArray) : ∀ (n : Nat) (st : Option Nat), (M.rparts t n st).1.length = n
  | 0, _ => rfl
  | n + 1, st => by
    unfold M.rparts
    rw [List.length_append, M.rparts_len t n st]
    rfl
theorem M.rhead_span {t : ByteArray} {b : Nat} (h : (M.rhead t).2.2 = some b) : M.Span t 0 (M.eL (M.rhead t).1.id ++ (M.putText (M.rhead t).1.host).data.toList ++ M.numsL [(M.rhead t).1.run, (M.rhead t).1.lev, (M.rhead t).1.base, (M.rhead t).1.day, (M.rhead t).1.many, (M.rhead t).1.crc, (M.rhead t).2.1]) b := by
  unfold M.rhead at h ⊢
  simp only at h ⊢
  obtain ⟨a8, h8, s9⟩ := M.rnum_span h
  obtain ⟨a7, h7, s8⟩ := M.rnum_span h8
  obtain ⟨a6, h6, s7⟩ := M.rnum_span h7
  obtain ⟨a5, h5, s6⟩ := M.rnum_span h6
  obtain ⟨a4, h4, s5⟩ := M.rnum_span h5
  obtain ⟨a3, h3, s4⟩ := M.rnum_span h4
  obtain ⟨a2, h2, s3⟩ := M.rnum_span h3
  obtain ⟨a1, h1, s2⟩ := M.rtxt_span h2
  obtain ⟨a0, h0, s1⟩ := M.rnum_span h1
  obtain rfl := Option.some.inj h0
  have := (((((((s1.app s2).app s3).app s4).app s5).app s6).app s7).app s8).app s9
  unfold M.numsL
  simpa using this
/-- The dump that is read, and where that ended. -/
def M.rdump (t : ByteArray) : M.DumpD × Option Nat :=
  if 0 ≤ (M.rhead t).2.1 ∧ (M.rhead t).2.1 ≤ 8 then ({ (M.rhead t).1 with ps := (M.rparts t (M.rhead t).2.1.toNat (M.rhead t).2.2).1 }, (M.rparts t (M.rhead t).2.1.toNat (M.rhead t).2.2).2)
  else ((M.rhead t).1, (M.rhead t).2.2)
theorem M.eL_zero {n : Int} {K : List UInt8} (h : M.eL n ++ K = M.eL 0) : n = 0 := by
  have h1 : (M.eL n).length ≤ 1 := by
    have := congrArg List.length h
    rw [List.length_append] at this
    have h2 : (M.eL 0).length = 1 := by decide
    omega
  have h2 : 1 ≤ (M.eL n).length := (M.enc_len _).1
  have hK : K = [] := by
    have := congrArg List.length h
    rw [List.length_append] at this
    have h3 : (M.eL 0).length = 1 := by decide
    exact List.eq_nil_of_length_eq_zero (by omega)
  rw [hK, List.append_nil] at h
  unfold M.eL at h h1
  by_cases hu : M.foldZ n < 128
  · rw [M.enc_small hu, M.enc_small (by decide)] at h
    have h3 := congrArg UInt8.toNat (List.singleton_inj.1 h)
    rw [M.toNat_ofNat (by omega), M.toNat_ofNat (by decide)] at h3
    have h4 : M.foldZ 0 = 0 := by decide
    rw [h4] at h3
    unfold M.foldZ at h3
    split at h3 <;> omega
  · exact absurd h1 (by
      unfold M.enc
      rw [M.encF, if_neg hu]
      have := (M.encF_len 9 (M.foldZ n / 128)).1
      simp only [List.length_cons]
      omega)
theorem M.rhead_ps (t : ByteArray) : (M.rhead t).1.ps = [] := rfl
theorem M.dhead_ps (d : M.DumpD) (ps : List M.PartD) : M.dheadL { d with ps := ps } = M.eL d.id ++ (M.putText d.host).data.toList ++ M.numsL [d.run, d.lev, d.base, d.day, d.many, d.crc, (ps.length : Int)] := rfl
theorem M.span_nil {t : ByteArray} {L : List UInt8} {b : Nat} (h : M.Span t 0 L b) : t.data.toList = L ++ t.data.toList.drop b := by
  have := h.1
  rwa [List.drop_zero] at this
theorem M.rdump_yes {t : ByteArray} {b : Nat} (hn : 0 ≤ (M.rhead t).2.1 ∧ (M.rhead t).2.1 ≤ 8) (h : (M.rdump t).2 = some b) : M.Span t 0 (M.dumpL (M.rdump t).1) b := by
  have hd : M.rdump t = ({ (M.rhead t).1 with ps := (M.rparts t (M.rhead t).2.1.toNat (M.rhead t).2.2).1 }, (M.rparts t (M.rhead t).2.1.toNat (M.rhead t).2.2).2) := by unfold M.rdump; rw [if_pos hn]
  rw [hd] at h ⊢
  simp only at h ⊢
  have hst : ∀ a, (M.rhead t).2.2 = some a → a ≤ t.size := fun a ha => (M.rhead_span ha).2
  obtain ⟨a, ha, s2⟩ := M.rparts_span _ hst h
  have s1 := M.rhead_span ha
  unfold M.dumpL
  rw [M.dhead_ps]
  simp only
  rw [M.rparts_len, Int.toNat_of_nonneg hn.1]
  exact s1.app s2
theorem M.rdump_iff (t : ByteArray) : ((M.rdump t).2 ≠ none ∧ M.dumpT (M.rdump t).1 = t) ↔ ((0 ≤ (M.rhead t).2.1 ∧ (M.rhead t).2.1 ≤ 8) ∧ (M.rdump t).2 = some t.size ∧ M.dumpR (M.rdump t).1 = true) := by
  constructor
  · rintro ⟨h1, h2⟩
    obtain ⟨b, hb⟩ := Option.ne_none_iff_exists'.1 h1
    by_cases hn : 0 ≤ (M.rhead t).2.1 ∧ (M.rhead t).2.1 ≤ 8
    · have hs := M.rdump_yes hn hb
      have ht := M.span_nil hs
      have hr : M.dumpR (M.rdump t).1 = true := by
        cases e : M.dumpR (M.rdump t).1
        · unfold M.dumpT at h2
          rw [e] at h2
          have h3 : t.data.toList = [] := by rw [← h2]; rfl
          rw [h3] at ht
          have h4 := congrArg List.length ht
          unfold M.dumpL M.dheadL at h4
          have h5 : 1 ≤ (M.eL (M.rdump t).1.id).length := (M.enc_len _).1
          simp only [List.length_append, List.length_nil] at h4
          omega
        · rfl
      refine ⟨hn, ?_, hr⟩
      unfold M.dumpT at h2
      rw [if_pos hr] at h2
      have h3 : t.data.toList = M.dumpL (M.rdump t).1 := by have := congrArg (fun b : ByteArray => b.data.toList) h2; simpa using this.symm
      have h4 := congrArg List.length ht
      rw [List.length_append, ← h3, List.length_drop, ← Lib.size_eq] at h4
      have := hs.2
      rw [hb, show b = t.size by omega]
    · exfalso
      have hd : M.rdump t = ((M.rhead t).1, (M.rhead t).2.2) := by unfold M.rdump; rw [if_neg hn]
      rw [hd] at h2 hb
      simp only at h2 hb
      have ht := M.span_nil (M.rhead_span hb)
      have h5 : 1 ≤ (M.eL (M.rhead t).1.id).length := (M.enc_len _).1
      have hr : M.dumpR (M.rhead t).1 = true := by
        cases e : M.dumpR (M.rhead t).1
        · unfold M.dumpT at h2
          rw [e] at h2
          have h3 : t.data.toList = [] := by rw [← h2]; rfl
          rw [h3] at ht
          have h4 := congrArg List.length ht
          simp only [List.length_append, List.length_nil] at h4
          omega
        · rfl
      unfold M.dumpT at h2
      rw [if_pos hr] at h2
      have h3 : t.data.toList = M.dumpL (M.rhead t).1 := by have := congrArg (fun b : ByteArray => b.data.toList) h2; simpa using this.symm
      have ht : M.dumpL (M.rhead t).1 = _ := h3.symm.trans ht
      unfold M.dumpL M.dheadL at ht
      rw [M.rhead_ps] at ht
      have h6 : ∀ z : Int, M.numsL [(M.rhead t).1.run, (M.rhead t).1.lev, (M.rhead t).1.base, (M.rhead t).1.day, (M.rhead t).1.many, (M.rhead t).1.crc, z] = M.numsL [(M.rhead t).1.run, (M.rhead t).1.lev, (M.rhead t).1.base, (M.rhead t).1.day, (M.rhead t).1.many, (M.rhead t).1.crc] ++ M.eL z := fun z => M.numsL_snoc [(M.rhead t).1.run, (M.rhead t).1.lev, (M.rhead t).1.base, (M.rhead t).1.day, (M.rhead t).1.many, (M.rhead t).1.crc] z
      rw [h6, h6] at ht
      simp only [List.flatMap_nil, List.append_nil, List.append_assoc, List.append_cancel_left_eq] at ht
      exact hn (by have := M.eL_zero ht.symm; omega)
  · rintro ⟨hn, hb, hr⟩
    have ht := M.span_nil (M.rdump_yes hn hb)
    refine ⟨by rw [hb]; simp, ?_⟩
    unfold M.dumpT
    rw [if_pos hr]
    refine M.ba_ext ?_
    rw [ht, List.drop_of_length_le (by rw [← Lib.size_eq]; exact Nat.le_refl _)]
    simp
end Go.Proofs.Ytpokcbcffijheaa
