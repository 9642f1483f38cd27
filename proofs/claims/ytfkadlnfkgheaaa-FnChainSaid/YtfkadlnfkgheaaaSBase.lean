/-
  What l05Base and BaseFor of the specification do.
-/
import Derived.Test.YtfkadlnfkgheaaaSMarksR
namespace Go.Proofs.Ytfkadlnfkgheaaa
open Go.RowKit

/-- The Id of the last one of a lower Level, among the first k. -/
def M.lastB (ms : List M.MkD) (lv : Int) : Nat → Int
  | 0 => 0
  | k + 1 => match ms[k]? with
    | some m => if m.level < lv then m.id else M.lastB ms lv k
    | none => M.lastB ms lv k
theorem M.lastB_yes {ms : List M.MkD} {lv : Int} {k : Nat} {m : M.MkD} (h : ms[k]? = some m) (hl : m.level < lv) : M.lastB ms lv (k + 1) = m.id := by rw [M.lastB, h]; exact if_pos hl
theorem M.lastB_no {ms : List M.MkD} {lv : Int} {k : Nat} {m : M.MkD} (h : ms[k]? = some m) (hl : ¬ m.level < lv) : M.lastB ms lv (k + 1) = M.lastB ms lv k := by rw [M.lastB, h]; exact if_neg hl
theorem M.lastB_zero {ms : List M.MkD} {lv : Int} : M.lastB ms lv 0 = 0 := rfl

set_option maxRecDepth 100000 in
set_option maxHeartbeats 1600000 in
theorem sBase_any (w : World) (a : Option Addr) (len cap : Nat) (ms : List M.MkD) (lv : Int) (h : M.Mks w a len cap ms) :
    Calls Try.prog 43 #[.slice a len cap, .int .i64 lv] w fun e w' => e = .returned (.int .i64 (M.lastB ms lv ms.length)) ∧ w = w' := by
  have hlm : len ≤ 9223372036854775807 := by obtain ⟨_, h1, h2, _⟩ := h; unfold maxLen at h2; omega
  have HFL : Hid (len = ms.length) := h.1
  have HM := M.hidm h
  clear h
  go_enter Try.func43, Try.ntmps43
  go_wp2
  go_loop [5] (fun i => ∃ k : Nat, i = .int .i64 ((k : Int) - 1) ∧ k ≤ len ∧ Hid (M.lastB ms lv ms.length = M.lastB ms lv k)) (fun i => (intOf i + 1).toNat)
  case atStart => exact ⟨len, rfl, Nat.le_refl _, (show _ = _ by rw [HFL.out])⟩
  case round =>
    obtain ⟨k, rfl, hk, HG⟩ := hrel
    cases k with
    | zero =>
      have e0 : ((0 : Nat) : Int) - 1 = -1 := rfl
      rw [e0]
      clear e0
      go_wp2
      go_ret
      exact ⟨by rw [HG.out]; rfl, rfl⟩
    | succ j =>
      have e0 : ((j + 1 : Nat) : Int) - 1 = (j : Int) := by omega
      rw [e0]
      clear e0
      have hjI : (j : Int) < (len : Int) := by omega
      have hjm : j < ms.length := by have := HFL.out; omega
      obtain ⟨-, -, -, hfa⟩ := HM.out
      obtain ⟨b, off, rfl, hat⟩ := hfa (by omega)
      obtain ⟨c0, c1, -⟩ := hat j hjm
      have hfk := List.getElem?_eq_getElem hjm
      generalize ms[j]'hjm = m at c0 c1 hfk
      have HFK := M.hidm hfk
      clear hfk hat hfa hjm
      by_cases hl : m.level < lv
      · have d0 : decide (m.level < lv) = true := decide_eq_true hl
        have HE : Hid (M.lastB ms lv ms.length = m.id) := by show _ = _; rw [HG.out, M.lastB_yes HFK.out hl]
        clear hl
        go_wp2
        go_ret
        exact ⟨by rw [HE.out]; rfl, rfl⟩
      · have d0 : decide (m.level < lv) = false := decide_eq_false hl
        have HG2 : Hid (M.lastB ms lv ms.length = M.lastB ms lv j) := by show _ = _; rw [HG.out, M.lastB_no HFK.out hl]
        clear hl
        go_wp2
        go_round
        case rel => exact ⟨j, rfl, by omega, HG2⟩
        case measure => simp [intOf]

/-- What BaseFor tells. -/
def M.BaseOut (ms : List M.MkD) (lv : Int) (v : Int) : Prop := (M.MarksR ms ∧ 1 ≤ lv ∧ lv ≤ 5 ∧ v = M.lastB ms lv ms.length) ∨ (¬ (M.MarksR ms ∧ 1 ≤ lv ∧ lv ≤ 5) ∧ v = 0)
theorem M.BaseOut.same {ms : List M.MkD} {lv v v' : Int} (h : M.BaseOut ms lv v) (h' : M.BaseOut ms lv v') : v = v' := by
  rcases h with ⟨h1, h2, h3, rfl⟩ | ⟨h1, rfl⟩ <;> rcases h' with ⟨k1, k2, k3, rfl⟩ | ⟨k1, rfl⟩
  · rfl
  · exact absurd ⟨h1, h2, h3⟩ k1
  · exact absurd ⟨k1, k2, k3⟩ h1
  · rfl
set_option maxRecDepth 100000 in
set_option maxHeartbeats 800000 in
theorem sBaseFor_any (w : World) (a : Option Addr) (len cap : Nat) (ms : List M.MkD) (lv : Int) (h : M.Mks w a len cap ms) :
    Calls Try.prog 22 #[.slice a len cap, .int .i64 lv] w fun e w' => ∃ v, e = .returned (.int .i64 v) ∧ M.BaseOut ms lv v ∧ Below w.heap.size w w' := by
  have HM := M.hidm h
  have HFL : Hid (len = ms.length) := h.1
  have hlm : len ≤ 9223372036854775807 := by obtain ⟨_, h1, h2, _⟩ := h; unfold maxLen at h2; omega
  clear h
  by_cases h4 : 400 < len
  · have HN : Hid (¬ M.MarksR ms) := fun h => by have := h.1; have := HFL.out; omega
    have d1 : decide (400 < (len : Int)) = true := decide_eq_true (by omega)
    go_enter Try.func22, Try.ntmps22
    go_wp2
    go_ret
    exact ⟨0, rfl, .inr ⟨fun h => HN.out h.1, rfl⟩, Below.refl _ _⟩
  have d1 : decide (400 < (len : Int)) = false := decide_eq_false (by omega)
  go_enter Try.func22, Try.ntmps22
  go_wp2_with fail
  refine (sMarksR_any w a len cap ms HM.out).mono ?_
  rintro e w1 ⟨v, rfl, hv, hb1⟩
  have HV := M.hidm hv
  have B1 := M.hidm hb1
  clear hv hb1
  cases v
  · have HN : Hid (¬ M.MarksR ms) := fun h => by have := HV.out.2 h; cases this
    go_wp2
    go_ret
    exact ⟨0, rfl, .inr ⟨fun h => HN.out h.1, rfl⟩, B1.out⟩
  · have HY := M.hidm (HV.out.1 rfl)
    by_cases hlv : 1 ≤ lv ∧ lv ≤ 5
    · have HI : Hid (Calls Try.prog 36 #[.int .i64 lv, .int .i64 1, .int .i64 5] w1 fun e w' => e = .returned (.bool true) ∧ w1 = w') := by
        have := sIs_any lv 1 5 w1
        rwa [decide_eq_true hlv] at this
      have HB := M.hidm (sBase_any w1 a len cap ms lv (HM.out.below B1.out))
      have HO : Hid (M.BaseOut ms lv (M.lastB ms lv ms.length)) := .inl ⟨HY.out, hlv.1, hlv.2, rfl⟩
      generalize M.lastB ms lv ms.length = r at HB HO
      clear hlv
      go_wp2_with fail
      refine HI.out.mono ?_
      rintro e w' ⟨rfl, rfl⟩
      go_wp2_with fail
      refine HB.out.mono ?_
      rintro e w' ⟨rfl, rfl⟩
      go_wp2
      go_ret
      exact ⟨r, rfl, HO.out, B1.out⟩
    · have HI : Hid (Calls Try.prog 36 #[.int .i64 lv, .int .i64 1, .int .i64 5] w1 fun e w' => e = .returned (.bool false) ∧ w1 = w') := by
        have := sIs_any lv 1 5 w1
        rwa [decide_eq_false hlv] at this
      have HO : Hid (M.BaseOut ms lv 0) := .inr ⟨fun h => hlv h.2, rfl⟩
      clear hlv
      go_wp2_with fail
      refine HI.out.mono ?_
      rintro e w' ⟨rfl, rfl⟩
      go_wp2
      go_ret
      exact ⟨0, rfl, HO.out, B1.out⟩
end Go.Proofs.Ytfkadlnfkgheaaa
