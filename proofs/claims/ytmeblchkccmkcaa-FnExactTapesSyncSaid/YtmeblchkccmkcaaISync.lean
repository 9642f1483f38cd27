/-
  What TapesSync of the program does.
-/
import Derived.Test.YtmeblchkccmkcaaIEachT
import Derived.Test.YtmeblchkccmkcaaITapesR
namespace Go.Proofs.Ytmeblchkccmkcaa
open Go.RowKit

/-- The tapes that TapesSync tells. -/
def M.syncT (ts : List M.TapeD) : List M.TapeD := if 400 < ts.length then [] else if M.tapesR ts = true then ts.map M.tsync else ts

set_option maxRecDepth 100000 in
set_option maxHeartbeats 1600000 in
theorem iSync_any (w : World) (a : Option Addr) (n c : Nat) (ts : List M.TapeD) (h : M.Tps w a n c ts) (hok : ∀ t ∈ ts, M.tok t) (hsm : ∀ t ∈ ts, ∀ s ∈ t.ss, s.size ≤ 100000000) (hl : n + M.tln ts ≤ 1048576) :
    Calls Try.prog 21 #[.slice a n c] w fun e w' => ∃ (v : Value) (qs : List (M.TapeD × Value)), e = .returned v ∧ qs.map Prod.fst = M.syncT ts ∧ M.OwnT w' w.heap.size w'.heap.size v qs ∧ Below w.heap.size w w' := by
  have HF := M.hl h
  have HSM := M.hl hsm
  have HN : Hid (n = ts.length) := h.1
  have CR := M.hl (iTapesR_any w a n c ts h hok)
  have hnl : n ≤ 1048576 := by omega
  have HL := M.hl hl
  clear h hok hsm hl
  by_cases h4 : 400 < n
  · have HE : Hid (M.syncT ts = []) := by show _ = _; unfold M.syncT; rw [if_pos (by have := HN.out; omega)]
    go_enter Try.func21, Try.ntmps21
    go_wp2
    go_ret
    exact ⟨_, [], rfl, HE.out.symm, M.OwnT.nil _ _ _, Below.refl _ _⟩
  have h4' : decide (400 < (n : Int)) = false := decide_eq_false (by omega)
  cases hr : M.tapesR ts
  · have HE : Hid (M.syncT ts = ts) := by show _ = _; unfold M.syncT; rw [if_neg (by have := HN.out; omega), hr]; rfl
    rw [hr] at CR
    clear hr
    go_enter Try.func21, Try.ntmps21
    go_wp2_with fail
    refine CR.out.mono ?_
    rintro e w1 ⟨rfl, hb⟩
    have B1 := M.hl hb
    clear hb
    go_wp2_with fail
    refine (iEachC_any w1 a n c ts (HF.out.below B1.out) HSM.out HL.out).mono ?_
    rintro e w2 ⟨v, qs, rfl, hq, hO, hb⟩
    have HQ := M.hl hq
    have HO := M.hl (hO.widen B1.out.size (Nat.le_refl _))
    have B2 := M.hl (M.sl B1.out hb)
    clear hq hO hb
    go_wp2
    go_ret
    exact ⟨v, qs, rfl, HQ.out.trans HE.out.symm, HO.out, B2.out⟩
  · have HE : Hid (M.syncT ts = ts.map M.tsync) := by show _ = _; unfold M.syncT; rw [if_neg (by have := HN.out; omega), hr]; rfl
    rw [hr] at CR
    clear hr
    go_enter Try.func21, Try.ntmps21
    go_wp2_with fail
    refine CR.out.mono ?_
    rintro e w1 ⟨rfl, hb⟩
    have B1 := M.hl hb
    clear hb
    go_wp2_with fail
    refine (iEachS_any w1 a n c ts (HF.out.below B1.out) HSM.out HL.out).mono ?_
    rintro e w2 ⟨v, qs, rfl, hq, hO, hb⟩
    have HQ := M.hl hq
    have HO := M.hl (hO.widen B1.out.size (Nat.le_refl _))
    have B2 := M.hl (M.sl B1.out hb)
    clear hq hO hb
    go_wp2
    go_ret
    exact ⟨v, qs, rfl, HQ.out.trans HE.out.symm, HO.out, B2.out⟩
end Go.Proofs.Ytmeblchkccmkcaa
