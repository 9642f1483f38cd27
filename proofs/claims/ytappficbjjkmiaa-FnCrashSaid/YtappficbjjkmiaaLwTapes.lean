/-
  What lwTapes of the laws says of like tapes.
-/
import Derived.Test.YtappficbjjkmiaaPart6
import Derived.Test.YtappficbjjkmiaaRows
import Derived.WalkKit
import Derived.WalkSpells
import Derived.Deep.QuietTactic
import Derived.BigQuiet
namespace Go.Proofs.Ytappficbjjkmiaa
open Go.RowKit

set_option maxRecDepth 100000 in
set_option maxHeartbeats 1600000 in
theorem lwTapes_same (w : World) (a b : Option Addr) (n c d : Nat) (ts : List M.TapeD) (h : M.Tps w a n c ts) (k : M.Tps w b n d ts) :
    Calls Try.prog 12 #[.slice a n c, .slice b n d] w fun e w' => e = .returned (.bool true) ∧ Below w.heap.size w w' := by
  have HF := M.hl h
  have HG := M.hl k
  have hn := h.max
  clear h k
  have d0 : ((n : Int) != (n : Int)) = false := by simp
  go_enter Try.func12, Try.ntmps12
  go_wp2
  go_loopw [5] (fun i wr => ∃ k : Nat, i = .int .i64 k ∧ k ≤ n ∧ Hid (Below w.heap.size w wr)) (fun i _ => n - (intOf i).toNat)
  case atStart => exact ⟨0, rfl, Nat.zero_le _, Below.refl _ _⟩
  case round =>
    obtain ⟨k, rfl, hk, HBr⟩ := hrel
    by_cases hlt : k < n
    case neg =>
      go_wp2
      go_ret
      exact ⟨rfl, HBr.out⟩
    obtain ⟨b1, o1, t, rfl, hfk, hat⟩ := HF.out.at hlt
    obtain ⟨b2, o2, t', rfl, hfk', hat'⟩ := HG.out.at hlt
    obtain rfl := Option.some.inj (hfk.symm.trans hfk')
    obtain ⟨x, ss, y, z⟩ := t
    have AA := M.hl (hat.below HBr.out)
    have BB := M.hl (hat'.below HBr.out)
    have A0 := M.hl hat
    have B0 := M.hl hat'
    obtain ⟨c0, ⟨a1, n1, k1, c1, hs1, -⟩, c2, c3⟩ := AA.out
    obtain ⟨e0, ⟨a2, n2, k2, e1, hs2, -⟩, e2, e3⟩ := BB.out
    obtain rfl : n1 = n2 := by rw [hs1.1, hs2.1]
    simp only at c0 c1 c2 c3 e0 e1 e2 e3
    have S1 := M.hl hs1
    have S2 := M.hl hs2
    have d1 : ((n1 : Int) != (n1 : Int)) = false := by simp
    have hn1 := M.Strs.max hs1
    have HC1 : Hid (∀ W, Below w.heap.size w W → W.cell? ⟨b1, o1 + k * 4 + 1, none⟩ = some (.slice a1 n1 k1) ∧ M.Strs W a1 n1 k1 ss) := by
      obtain ⟨-, ⟨a', n', k', c', hs', -⟩, -⟩ := A0.out
      have := (World.cell?_of_block (a := ⟨b1, o1 + k * 4 + 1, none⟩) (HBr.out.block b1 (World.block_lt_of_cell? w _ c'))).trans c'
      rw [c1] at this
      cases this
      exact fun W hW => ⟨(World.cell?_of_block (a := ⟨b1, o1 + k * 4 + 1, none⟩) (hW.block b1 (World.block_lt_of_cell? w _ c'))).trans c', hs'.below hW⟩
    have HC2 : Hid (∀ W, Below w.heap.size w W → W.cell? ⟨b2, o2 + k * 4 + 1, none⟩ = some (.slice a2 n1 k2) ∧ M.Strs W a2 n1 k2 ss) := by
      obtain ⟨-, ⟨a', n', k', c', hs', -⟩, -⟩ := B0.out
      have := (World.cell?_of_block (a := ⟨b2, o2 + k * 4 + 1, none⟩) (HBr.out.block b2 (World.block_lt_of_cell? w _ c'))).trans c'
      rw [e1] at this
      cases this
      exact fun W hW => ⟨(World.cell?_of_block (a := ⟨b2, o2 + k * 4 + 1, none⟩) (hW.block b2 (World.block_lt_of_cell? w _ c'))).trans c', hs'.below hW⟩
    clear hfk hfk' hat hat' AA BB hs1 hs2 S1 S2 A0 B0
    go_wp2
    go_quiet (fail)
    rename_i nq
    have HB2 : Hid (Below w.heap.size w (wr.drewN nq)) := below_drewN HBr.out _
    clear c0 c1 c2 c3 e0 e1 e2 e3
    go_wp2
    go_loopw [6] (fun i wi => ∃ j : Nat, i = .int .i64 j ∧ j ≤ n1 ∧ Hid (Below w.heap.size w wi)) (fun i _ => n1 - (intOf i).toNat)
    case atStart => exact ⟨0, rfl, Nat.zero_le _, HB2⟩
    case round =>
      obtain ⟨j, rfl, hj, HBi⟩ := hrel
      obtain ⟨f1, g1⟩ := HC1.out wr HBi.out
      obtain ⟨f2, g2⟩ := HC2.out wr HBi.out
      by_cases hji : j < n1
      case neg =>
        clear g1 g2
        go_wp2
        go_roundw
        case rel => exact ⟨k + 1, by go_num, by omega, HBi⟩
        case measure => simp [intOf]; omega
      obtain ⟨l1, -, -, z1⟩ := g1
      obtain ⟨-, -, -, z2⟩ := g2
      obtain ⟨p1, q1, rfl, r1⟩ := z1 (by omega)
      obtain ⟨p2, q2, rfl, r2⟩ := z2 (by omega)
      have s1 := r1 j (by omega)
      have s2 := r2 j (by omega)
      generalize ss[j]'(by omega) = s at s1 s2
      have ds : (s.toList != s.toList) = false := by simp
      clear r1 r2 z1 z2 l1
      go_wp2
      go_quiet (fail)
      clear f1 f2 s1 s2
      go_wp2
      go_roundw
      case rel => exact ⟨j + 1, by go_num, by omega, below_drewN HBi.out _⟩
      case measure => simp [intOf]; omega
end Go.Proofs.Ytappficbjjkmiaa
