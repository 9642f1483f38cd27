/-
  A dump's bytes, with no word of the program.
-/
import Derived.Test.YtpokcbcffijheabDumpMath
import Derived.Test.YtpokcbcffijheabMath
import Derived.Test.YtpokcbcffijheabOwnBytes
namespace Go.Proofs.Ytpokcbcffijheab
open Go.RowKit

/-- The bytes of a number. -/
def M.eL (n : Int) : List UInt8 := M.enc (M.foldZ n)
def M.num (n : Int) : ByteArray := ⟨(M.eL n).toArray⟩
/-- Those of numbers, one behind the other. -/
def M.numsL (ns : List Int) : List UInt8 := ns.flatMap M.eL
def M.nums (ns : List Int) : ByteArray := ⟨(M.numsL ns).toArray⟩
theorem M.num_size (n : Int) : (M.num n).size ≤ 11 := M.enc_size _
theorem M.numsL_len (ns : List Int) : (M.numsL ns).length ≤ 11 * ns.length := by
  induction ns with
  | nil => exact Nat.le_refl _
  | cons n ns ih =>
    have h : (M.eL n).length ≤ 11 := (M.enc_len _).2
    simp only [M.numsL, List.flatMap_cons, List.length_append, List.length_cons] at ih ⊢
    omega
theorem M.nums_size (ns : List Int) : (M.nums ns).size ≤ 11 * ns.length := M.numsL_len ns
theorem M.nums_toList (ns : List Int) : (M.nums ns).data.toList = M.numsL ns := by simp [M.nums]
theorem M.num_toList (n : Int) : (M.num n).data.toList = M.eL n := by simp [M.num]
theorem M.numsL_snoc (ns : List Int) (n : Int) : M.numsL (ns ++ [n]) = M.numsL ns ++ M.eL n := by simp [M.numsL]
def M.partL (p : M.PartD) : List UInt8 := M.numsL [p.q, p.l, p.s, p.c]
/-- The bytes ahead of the parts. -/
def M.dheadL (d : M.DumpD) : List UInt8 := M.eL d.id ++ (M.putText d.host).data.toList ++ M.numsL [d.run, d.lev, d.base, d.day, d.many, d.crc, (d.ps.length : Int)]
def M.dumpL (d : M.DumpD) : List UInt8 := M.dheadL d ++ d.ps.flatMap M.partL
/-- The bytes that DumpBytes tells. -/
def M.dumpT (d : M.DumpD) : ByteArray := if M.dumpR d = true then ⟨(M.dumpL d).toArray⟩ else ⟨#[]⟩
theorem M.dumpR_host {d : M.DumpD} (h : M.dumpR d = true) : M.nameR d.host = true := by
  unfold M.dumpR at h
  simp only [Bool.and_eq_true] at h
  exact h.1.1.1.1.1.1.1.1.2
theorem M.dumpR_parts {d : M.DumpD} (h : M.dumpR d = true) : d.ps.length ≤ 8 ∧ ∀ p ∈ d.ps, M.partR p = true := by
  unfold M.dumpR at h
  simp only [Bool.and_eq_true] at h
  exact ⟨of_decide_eq_true h.1.2, List.all_eq_true.1 h.2⟩
theorem M.partR_iff {p : M.PartD} : M.partR p = true ↔ (0 ≤ p.q ∧ p.q ≤ 7) ∧ (0 ≤ p.l ∧ p.l ≤ 1000000) ∧ (0 ≤ p.s ∧ p.s ≤ 300) ∧ (0 ≤ p.c ∧ p.c ≤ 300) := by
  unfold M.partR
  simp only [Bool.and_eq_true, decide_eq_true_eq, and_assoc]
theorem M.dumpR_nums {d : M.DumpD} (h : M.dumpR d = true) : (1 ≤ d.id ∧ d.id ≤ 1000000) ∧ (0 ≤ d.run ∧ d.run ≤ 1000000) ∧ (0 ≤ d.lev ∧ d.lev ≤ 5) ∧ (0 ≤ d.base ∧ d.base ≤ 1000000) ∧ (0 ≤ d.day ∧ d.day ≤ 1000000000) ∧ (0 ≤ d.many ∧ d.many ≤ 20000) ∧ (0 ≤ d.crc ∧ d.crc ≤ 4294967295) := by
  unfold M.dumpR at h
  simp only [Bool.and_eq_true, decide_eq_true_eq] at h
  obtain ⟨⟨⟨⟨⟨⟨⟨⟨⟨h1, -⟩, h2⟩, h3⟩, h4⟩, h5⟩, h6⟩, h7⟩, -⟩, -⟩ := h
  exact ⟨h1, h2, h3, h4, h5, h6, h7⟩
theorem M.nameR_len {s : ByteArray} (h : M.nameR s = true) : s.size ≤ 20 := by
  unfold M.nameR at h
  simp only [Bool.and_eq_true, decide_eq_true_eq] at h
  omega
theorem M.putText_size2 (s : ByteArray) : (M.putText s).size ≤ 11 + s.size := by
  unfold M.putText
  have := M.enc_size (M.foldZ (s.size : Int))
  split
  · exact Nat.zero_le _
  · rw [ByteArray.size_append]; omega
theorem M.ba_ext {a b : ByteArray} (h : a.data.toList = b.data.toList) : a = b := by
  cases a; cases b
  simp only at h
  rw [ByteArray.mk.injEq]
  exact Array.toList_inj.1 h
theorem M.app_toList (a b : ByteArray) : (a ++ b).data.toList = a.data.toList ++ b.data.toList := by
  rw [ByteArray.data_append, Array.toList_append]
theorem M.partsL_len (ps : List M.PartD) : (ps.flatMap M.partL).length ≤ 44 * ps.length := by
  induction ps with
  | nil => exact Nat.le_refl _
  | cons p ps ih =>
    have h : (M.partL p).length ≤ 44 := M.numsL_len _
    simp only [List.flatMap_cons, List.length_append, List.length_cons]
    omega
theorem M.dumpT_size (d : M.DumpD) : (M.dumpT d).size ≤ 1000 := by
  unfold M.dumpT
  split
  · next h =>
    rw [Lib.size_eq]
    show (M.dumpL d).length ≤ 1000
    unfold M.dumpL M.dheadL
    have h1 := M.partsL_len d.ps
    have h2 := (M.dumpR_parts h).1
    have h3 := M.putText_size2 d.host
    have h4 := M.nameR_len (M.dumpR_host h)
    have h5 := M.numsL_len [d.run, d.lev, d.base, d.day, d.many, d.crc, (d.ps.length : Int)]
    have h6 : (M.eL d.id).length ≤ 11 := (M.enc_len _).2
    rw [Lib.size_eq] at h3
    simp only [List.length_append, List.length_cons, List.length_nil] at h5 ⊢
    omega
  · exact Nat.zero_le _
end Go.Proofs.Ytpokcbcffijheab
