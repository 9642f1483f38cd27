/-
  An archive's bytes, with no word of the program.
-/
import Derived.Test.YtbmbcfnlpbbapahDoorHeadMath
import Derived.Test.YtbmbcfnlpbbapahDoorTreeMath
import Derived.Lib.ItoaNum
namespace Go.Proofs.YtbmbcfnlpbbapahDoor.M

/-- How many bytes 0 fill n bytes up to whole blocks. -/
def fillN (n : Nat) : Nat := (512 - n % 512) % 512
def fillB (t : ByteArray) : ByteArray := t ++ zerosB (fillN t.size)
/-- A record behind its length. -/
def restB (p : ByteArray) : ByteArray := (⟨#[32, 112, 97, 116, 104, 61]⟩ : ByteArray) ++ p ++ ⟨#[10]⟩
/-- A number from 100 to 999 in digits. -/
def decB (n : Nat) : ByteArray := ⟨(Lib.decDigits n).toArray⟩
/-- The record of a long name. -/
def recB (p : ByteArray) : ByteArray := decB (p.size + 10) ++ restB p
def fullB (path : ByteArray) (dir : Bool) : ByteArray := if dir = true then path ++ ⟨#[47]⟩ else path
def kindN (dir : Bool) : Nat := if dir = true then 53 else 48
def paxB (nm : ByteArray) : ByteArray := head ⟨#[112, 97, 120]⟩ (recB nm).size 420 0 120 ++ fillB (recB nm)
/-- A file in an archive. -/
def entryB (f : FileD) : ByteArray :=
  (if 100 < (fullB f.path f.dir).size then paxB (fullB f.path f.dir) else ⟨#[]⟩)
    ++ head (if 100 < (fullB f.path f.dir).size then (fullB f.path f.dir).extract 0 100 else fullB f.path f.dir) f.data.size f.mode.toNat f.time.toNat (kindN f.dir)
    ++ fillB f.data
/-- The entries, one behind the other. -/
def entriesL (fs : List FileD) : List UInt8 := fs.flatMap fun f => (entryB f).data.toList
def archB (fs : List FileD) : ByteArray := (⟨(entriesL fs).toArray⟩ : ByteArray) ++ zerosB 1024
/-- What Pack tells. -/
def packB (fs : List FileD) : ByteArray := if fs.length ≤ 20 ∧ (fs.all fileR = true) ∧ (archB fs).size ≤ 20000 then archB fs else ⟨#[]⟩

theorem nDigits3 {n : Nat} (h : 100 ≤ n) (h' : n ≤ 999) : Lib.nDigits n = 3 := by
  rw [Lib.nDigits_big (by omega), Lib.nDigits_big (by omega), Lib.nDigits_small (by omega)]
theorem decB_size {n : Nat} (h : 100 ≤ n) (h' : n ≤ 999) : (decB n).size = 3 := by
  unfold decB; rw [Lib.size_eq]; rw [show (⟨(Lib.decDigits n).toArray⟩ : ByteArray).data.toList = Lib.decDigits n from rfl, Lib.decDigits_length, nDigits3 h h']
theorem restB_size (p : ByteArray) : (restB p).size = p.size + 7 := by
  unfold restB; rw [ByteArray.size_append, ByteArray.size_append]; show 6 + p.size + 1 = _; omega
theorem recB_size {p : ByteArray} (h : 100 ≤ p.size) (h' : p.size ≤ 900) : (recB p).size = p.size + 10 := by
  unfold recB; rw [ByteArray.size_append, decB_size (by omega) (by omega), restB_size]; omega
theorem fillN_lt (n : Nat) : fillN n < 512 := Nat.mod_lt _ (by decide)
theorem fillB_size (t : ByteArray) : (fillB t).size = t.size + fillN t.size := by unfold fillB; rw [ByteArray.size_append, zerosB_size]
theorem fill_mod (n : Nat) : (n + fillN n) % 512 = 0 := by unfold fillN; omega
theorem head_size {name : ByteArray} {size mode time kind : Nat} (h0 : name.size ≤ 100) (h1 : mode < 8 ^ 7) (h2 : size < 8 ^ 11) (h3 : time < 8 ^ 11) : (head name size mode time kind).size = 512 := by
  have hn : name.data.toList.length ≤ 100 := by rw [← Lib.size_eq]; exact h0
  have he := pre_eq (kd := UInt8.ofNat kind) hn (octT_len 7 mode) (octT_len 7 0) (octT_len 11 size) (octT_len 11 time)
  have hl : (pre name.data.toList (octT 7 mode) (octT 7 0) (octT 11 size) (octT 11 time) (UInt8.ofNat kind)).length = 512 := by
    rw [he, List.length_append, List.length_append, preA_len hn (octT_len _ _) (octT_len _ _) (octT_len _ _) (octT_len _ _), preZ_len, List.length_replicate]
  rw [head_final (kind := kind) h0 h1 h2 h3 rfl, Lib.size_eq]
  show (over _ _ _).length = 512
  rw [over_len]
  · exact hl
  · rw [octB_full (head_sum_lt hl), hl, ← Lib.size_eq, ByteArray.size_append, Lib.size_eq]
    show 148 + ((octT 6 _).length + 2) ≤ 512
    rw [octT_len]
    decide
theorem paxB_size {nm : ByteArray} (h1 : 100 < nm.size) (h2 : nm.size ≤ 151) : (paxB nm).size = 1024 := by
  have hr := recB_size (p := nm) (by omega) (by omega)
  unfold paxB
  rw [ByteArray.size_append, head_size (by decide) (by decide) (by omega) (by decide), fillB_size, hr]
  unfold fillN; omega
theorem fullB_size (p : ByteArray) (d : Bool) (h : p.size ≤ 150) : (fullB p d).size ≤ 151 := by
  unfold fullB
  split
  · rw [ByteArray.size_append]; show p.size + 1 ≤ 151; omega
  · omega
theorem fillB_le {t : ByteArray} (h : t.size ≤ 1200) : (fillB t).size ≤ 1536 := by rw [fillB_size]; unfold fillN; omega
/-- The digits, one after the other, the lowest first. -/
def decI (n N : Nat) (acc : List UInt8) : Prop := (if N = 0 then [] else Lib.decDigits N) ++ acc = Lib.decDigits n
theorem decI_start {n : Nat} (h : n ≠ 0) : decI n n [] := by unfold decI; rw [if_neg h, List.append_nil]
theorem decI_end {n : Nat} {acc : List UInt8} (h : decI n 0 acc) : acc = Lib.decDigits n := by simpa [decI] using h
theorem decI_step {n N : Nat} {acc : List UInt8} (h : decI n N acc) (hN : N ≠ 0) : decI n (N / 10) (UInt8.ofNat (48 + N % 10) :: acc) := by
  unfold decI at h ⊢
  rw [if_neg hN] at h
  by_cases h10 : N < 10
  · rw [Lib.decDigits, dif_pos h10] at h
    rw [if_pos (by omega), Nat.mod_eq_of_lt h10]
    simpa using h
  · rw [Lib.decDigits, dif_neg h10] at h
    rw [if_neg (by omega)]
    simpa using h
theorem decI_len {n N : Nat} {acc : List UInt8} (h : decI n N acc) : acc.length ≤ (Lib.decDigits n).length := by
  rw [← h, List.length_append]; omega
end Go.Proofs.YtbmbcfnlpbbapahDoor.M
