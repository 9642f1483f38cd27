/-
  What markText of the laws does: a text of its own for each number from 1 on.
-/
import Derived.Test.YtappficbjjkmiaaRows
import Derived.WalkKit
import Derived.WalkSpells
import Derived.WalkLawsBesides
import Derived.Lib.Strings
import Derived.Lib.SlBuf
namespace Go.Proofs.Ytappficbjjkmiaa
open Go.RowKit

def M.digitsF : Nat → Nat → List UInt8
  | 0, _ => []
  | f + 1, n => if n = 0 then [] else M.digitsF f (n / 10) ++ [UInt8.ofNat (48 + n % 10)]
theorem M.digitsF_enough : ∀ (f f' n : Nat), n ≤ f → n ≤ f' → M.digitsF f n = M.digitsF f' n
  | 0, 0, _, _, _ => rfl
  | 0, f' + 1, n, h, _ => by rw [M.digitsF, M.digitsF, if_pos (by omega)]
  | f + 1, 0, n, _, h => by rw [M.digitsF, M.digitsF, if_pos (by omega)]
  | f + 1, f' + 1, n, h, h' => by
    rw [M.digitsF, M.digitsF]
    by_cases e : n = 0
    · rw [if_pos e, if_pos e]
    · rw [if_neg e, if_neg e, M.digitsF_enough f f' (n / 10) (by omega) (by omega)]
def M.digits (n : Nat) : List UInt8 := M.digitsF n n
theorem M.digits_pos {n : Nat} (h : 0 < n) : M.digits n = M.digits (n / 10) ++ [UInt8.ofNat (48 + n % 10)] := by
  obtain ⟨m, rfl⟩ : ∃ m, n = m + 1 := ⟨n - 1, by omega⟩
  unfold M.digits
  rw [M.digitsF, if_neg (by omega), M.digitsF_enough m ((m + 1) / 10) ((m + 1) / 10) (by omega) (Nat.le_refl _)]
theorem M.digits_zero : M.digits 0 = [] := rfl
def M.mt (n : Nat) : ByteArray := ⟨(109 :: M.digits n).toArray⟩

theorem M.conv_one (w : World) (z : Int) (h0 : 0 ≤ z) (h9 : z < 256) : (convert 22 9 (.slice (some ⟨w.heap.size, 0, none⟩) 1 1)).run Try.prog (w.alloc (.cells #[.int .u8 z] 5))
      = .ok (.string ⟨#[UInt8.ofNat z.toNat]⟩) (w.alloc (.cells #[.int .u8 z] 5)) := by
  refine run_convert_bytes_back (w.alloc _) _ _ 5 _ 1 [UInt8.ofNat z.toNat] Try.underlying22 Try.underlying5 Try.underlying9 fun j hj => ?_
  have hj0 : j = 0 := by simp at hj; omega
  subst hj0
  rw [Addr.add_lit, Nat.zero_add, World.cell?_alloc_mark]
  have e : ((UInt8.ofNat z.toNat).toNat : Int) = z := by
    rw [UInt8.toNat_ofNat']
    rw [Nat.mod_eq_of_lt (show z.toNat < 2 ^ 8 by omega)]; omega
  simp only [List.getElem_cons_zero, e]
  rfl
theorem M.cat_mk (c : UInt8) (o : ByteArray) : ((⟨#[c]⟩ : ByteArray) ++ o).data.toList = c :: o.data.toList := by
  rw [ByteArray.data_append]; simp

set_option maxRecDepth 100000 in
set_option maxHeartbeats 1600000 in
theorem markText_any (n : Nat) (w : World) (h1 : 1 ≤ n) (h2 : n ≤ 100000000) :
    Calls Try.prog 85 #[.int .i64 n] w fun e w' => e = .returned (.string (M.mt n)) ∧ Below w.heap.size w w' := by
  go_enter Try.func85, Try.ntmps85
  go_wp2
  go_loopw [0, 3] (fun x o wr => ∃ (m : Nat) (out : ByteArray), x = .int .i64 m ∧ o = .string out ∧ m ≤ n ∧ out.size + m ≤ n ∧ Hid (M.digits m ++ out.data.toList = M.digits n) ∧ Hid (Below w.heap.size w wr)) (fun x _ _ => (intOf x).toNat)
  case atStart => exact ⟨n, ⟨#[]⟩, rfl, rfl, Nat.le_refl _, Nat.le_of_eq (Nat.zero_add _), List.append_nil _, Below.refl _ _⟩
  case round =>
    obtain ⟨m, out, rfl, rfl, hm, hs, HD, HBr⟩ := hrel
    by_cases hz : 0 < m
    · have hcv := M.conv_one wr (48 + (m : Int) % 10) (by omega) (by omega)
      obtain ⟨c, hc⟩ : ∃ c, c = UInt8.ofNat (48 + (m : Int) % 10).toNat := ⟨_, rfl⟩
      rw [← hc] at hcv
      have HD2 : Hid (M.digits (m / 10) ++ ((⟨#[c]⟩ : ByteArray) ++ out).data.toList = M.digits n) := by
        show _ = _
        rw [M.cat_mk, hc, show (48 + (m : Int) % 10).toNat = 48 + m % 10 by omega]
        have := HD.out
        rw [M.digits_pos hz] at this
        simpa using this
      have hsz : ((⟨#[c]⟩ : ByteArray) ++ out).size = out.size + 1 := by
        rw [ByteArray.size_append]; exact Nat.add_comm _ _
      have HSZ : Hid (((⟨#[c]⟩ : ByteArray) ++ out).size = out.size + 1) := hsz
      have HB2 : Hid (Below w.heap.size w (wr.alloc (.cells #[.int .u8 (48 + (m : Int) % 10)] 5))) := HBr.out.alloc HBr.out.size _
      clear hsz hc
      go_wp2
      go_roundw
      case rel => exact ⟨m / 10, _, by go_num, rfl, by omega, by rw [HSZ.out]; omega, HD2, HB2⟩
      case measure => simp [intOf]; omega
    · have HE : Hid ((⟨#[109]⟩ : ByteArray) ++ out = M.mt n) := by
        show _ = _
        have := HD.out
        rw [show m = 0 by omega, M.digits_zero] at this
        apply ByteArray.ext
        apply Array.toList_inj.1
        rw [M.cat_mk]
        unfold M.mt
        simpa using this
      go_wp2
      go_ret
      exact ⟨by rw [← HE.out]; rfl, HBr.out⟩
end Go.Proofs.Ytappficbjjkmiaa
