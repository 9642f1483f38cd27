/-
  What l05Has of the specification does.
-/
import Derived.Test.YtappficbjjkmiaaPart1
import Derived.Test.YtappficbjjkmiaaPart6
import Derived.WalkKit
import Derived.WalkSpells
import Derived.WalkLawsBesides
namespace Go.Proofs.Ytappficbjjkmiaa
open Go.RowKit

def M.has (zs : List Int) (n : Int) : Bool := decide (n ∈ zs)
set_option maxRecDepth 100000 in
set_option maxHeartbeats 800000 in
theorem sHas_nv (w : World) (a : Option Addr) (len cap : Nat) (zs : List Int) (n : Int) (h : M.NV w a len zs) (hl : len ≤ 1000000) :
    Calls Try.prog 77 #[.slice a len cap, .int .i64 n] w fun e w' => e = .returned (.bool (M.has zs n)) ∧ w = w' := by
  have HF := M.hl h
  have HL : Hid (len = zs.length) := h.1
  clear h
  go_enter Try.func77, Try.ntmps77
  go_wp2
  go_loop [5] (fun i => ∃ k : Nat, i = .int .i64 k ∧ k ≤ len ∧ Hid (∀ t (h : t < zs.length), t < k → zs[t] ≠ n)) (fun i => len - (intOf i).toNat)
  case atStart => exact ⟨0, rfl, Nat.zero_le _, fun t _ h => absurd h (Nat.not_lt_zero _)⟩
  case round =>
    obtain ⟨k, rfl, hk, HG⟩ := hrel
    by_cases hlt : k < len
    · have hkm : k < zs.length := by have := HL.out; omega
      obtain ⟨-, hfa⟩ := HF.out
      obtain ⟨b, off, rfl, hat⟩ := hfa (by omega)
      have c0 := hat k hkm
      have hfk := List.getElem?_eq_getElem hkm
      generalize zs[k]'hkm = z at c0 hfk
      have HFK := M.hl hfk
      clear hat hfa hfk hkm
      by_cases e : z = n
      · have d0 : (z == n) = true := by simpa using e
        have HY : Hid (M.has zs n = true) := decide_eq_true (by rw [← e]; exact List.mem_of_getElem? HFK.out)
        clear e
        go_wp2
        go_ret
        exact ⟨by rw [HY.out]; rfl, rfl⟩
      · have d0 : (z == n) = false := by simpa using e
        have HG2 : Hid (∀ t (h : t < zs.length), t < k + 1 → zs[t] ≠ n) := fun t ht htk => by
          by_cases e2 : t = k
          · subst e2
            obtain ⟨h1, h2⟩ := List.getElem?_eq_some_iff.1 HFK.out
            rw [h2]; exact e
          · exact HG.out t ht (by omega)
        clear e
        go_wp2
        go_round
        case rel => exact ⟨k + 1, by go_num, by omega, HG2⟩
        case measure => simp [intOf]; omega
    · have HN : Hid (M.has zs n = false) := decide_eq_false fun hm => by
        obtain ⟨i, hi, e⟩ := List.mem_iff_getElem.1 hm
        exact HG.out i hi (by have := HL.out; omega) e
      go_wp2
      go_ret
      exact ⟨by rw [HN.out]; rfl, rfl⟩
end Go.Proofs.Ytappficbjjkmiaa
