/-
  What PathRight of the specification does: it tells whether a text is a path.
-/
import Derived.Test.YtbmbcfnlpbbapagDoorPartWalk
import Derived.Test.YtbmbcfnlpbbapagDoorSplitWalk
import Derived.WalkKit
import Derived.WalkSpells
import Derived.WalkLawsBesides
namespace Go.Proofs.YtbmbcfnlpbbapagDoor
open Go.RowKit

/-- The parts of a path lie in a row. -/
theorem M.parts_row {w : World} {base T : Nat} {v : Value} {parts : List (List UInt8)} (h : w.ownsRow base T 1 v parts.length (M.strs parts)) (hp : 0 < parts.length) :
    ∃ g cap, v = .slice (some ⟨g, 0, none⟩) parts.length cap ∧ ∀ i (hi : i < parts.length), w.cell? ⟨g, i, none⟩ = some (.string ⟨(parts[i]).toArray⟩) := by
  obtain ⟨hl, ⟨_, h0⟩ | ⟨g, cp, cur, hv, hb, hh, hn, hc, hz, ht⟩⟩ := h
  · rw [h0] at hp; simp at hp
  · refine ⟨g, cp, hv, fun i hi => ?_⟩
    have e : (M.strs parts)[i]? = some (.string ⟨(parts[i]).toArray⟩) := by simp [M.strs, hi]
    rw [← ht, List.getElem?_take_of_lt (by omega)] at e
    simp only [World.cell?, hh]
    simpa using e
theorem M.splitL_pos (d : UInt8) (l cur : List UInt8) : 0 < (M.splitL d cur l).length := by
  obtain ⟨p, ps, _, h⟩ := M.splitL_cur d l cur
  rw [h]; simp

set_option maxRecDepth 100000 in
set_option maxHeartbeats 3200000 in
theorem sPath_any (s : ByteArray) (w : World) (hs : s.size ≤ maxLen) :
    Calls Tryd.prog 7 #[.string s] w fun e w' => e = .returned (.bool (M.pathR s)) ∧ Below w.heap.size w w' := by
  unfold maxLen at hs
  by_cases hlo : s.size < 1
  · have hE : Hid (M.pathR s = false) := M.pathR_empty hlo
    go_enter Tryd.func7, Tryd.ntmps7
    go_wp2
    go_ret
    exact ⟨by rw [hE.out]; rfl, Below.refl _ _⟩
  by_cases hhi : 150 < s.size
  · have hE : Hid (M.pathR s = false) := M.pathR_long hhi
    go_enter Tryd.func7, Tryd.ntmps7
    go_wp2
    go_ret
    exact ⟨by rw [hE.out]; rfl, Below.refl _ _⟩
  have hS := split_any s 47 w (by omega)
  rw [show ((47 : UInt8).toNat : Int) = 47 from rfl] at hS
  have hpos := M.splitL_pos 47 s.data.toList []
  have hcnt := M.splitL_count 47 s.data.toList []
  rw [M.len_size] at hcnt
  have HLE : Hid (∀ p ∈ M.splitL 47 [] s.data.toList, p.length ≤ 150) := fun p hp => by
    have := M.splitL_le 47 s.data.toList [] p hp
    rw [M.len_size] at this; simp at this; omega
  have HBAD : Hid (∀ p ∈ M.splitL 47 [] s.data.toList, M.partR p = false → M.pathR s = false) := fun p hp h => M.pathR_bad hp h
  have HGOOD : Hid ((∀ p ∈ M.splitL 47 [] s.data.toList, M.partR p = true) → M.pathR s = true) := fun h => M.pathR_good (by omega) h
  generalize M.splitL 47 [] s.data.toList = parts at hS hpos hcnt HLE HBAD HGOOD
  have HS : Hid (Calls Tryd.prog 21 #[.string s, .int .u8 47] w fun e w' => ∃ v, e = .returned v ∧ w'.ownsRow w.heap.size 9 1 v parts.length (M.strs parts) ∧ Below w.heap.size w w') := hS
  clear hS
  go_enter Tryd.func7, Tryd.ntmps7
  go_wp2_with fail
  refine HS.out.mono ?_
  rintro e w1 ⟨v, rfl, hown, hbel⟩
  obtain ⟨g, cap, rfl, hcell⟩ := M.parts_row hown hpos
  have HC : Hid (∀ i (hi : i < parts.length), w1.cell? ⟨g, i, none⟩ = some (.string ⟨(parts[i]).toArray⟩)) := hcell
  have HB : Hid (Below w.heap.size w w1) := hbel
  clear hown hbel hcell
  go_wp2
  go_loop [4] (fun i => ∃ k : Nat, k ≤ parts.length ∧ i = .int .i64 k ∧ Hid (∀ j (h : j < parts.length), j < k → M.partR parts[j] = true)) (fun i => parts.length - (intOf i).toNat)
  case atStart => exact ⟨0, Nat.zero_le _, rfl, fun j _ hj => absurd hj (Nat.not_lt_zero _)⟩
  case round =>
    obtain ⟨k, hk, rfl, hall⟩ := hrel
    by_cases hlt : k < parts.length
    · have hc := HC.out k hlt
      have hmem : parts[k] ∈ parts := List.getElem_mem hlt
      have hle := HLE.out _ hmem
      have HBK : Hid (M.partR parts[k] = false → M.pathR s = false) := fun h => HBAD.out _ hmem h
      have HNX : Hid (M.partR parts[k] = true → ∀ j (h : j < parts.length), j < k + 1 → M.partR parts[j] = true) := fun hp j h hj => by
        by_cases e : j = k
        · subst e; exact hp
        · exact hall.out j h (by omega)
      clear hmem hall
      obtain ⟨q, hq⟩ : ∃ q : ByteArray, q = ⟨(parts[k]).toArray⟩ := ⟨_, rfl⟩
      have hqe : parts[k] = q.data.toList := by rw [hq]
      rw [← hq] at hc
      rw [hqe] at hle HBK HNX
      rw [M.len_size] at hle
      clear hq hqe
      by_cases hl1 : q.size < 1
      · have hE : Hid (M.pathR s = false) := HBK.out (M.partR_short (by rw [M.len_size]; exact hl1))
        go_wp2
        go_ret
        exact ⟨by rw [hE.out]; rfl, HB.out⟩
      by_cases hl2 : 60 < q.size
      · have hE : Hid (M.pathR s = false) := HBK.out (M.partR_long (by rw [M.len_size]; exact hl2))
        go_wp2
        go_ret
        exact ⟨by rw [hE.out]; rfl, HB.out⟩
      cases d1 : (q.toList == [46])
      case true =>
        have hE : Hid (M.pathR s = false) := HBK.out (M.dot_eq (by simpa using d1))
        go_wp2
        go_ret
        exact ⟨by rw [hE.out]; rfl, HB.out⟩
      cases d2 : (q.toList == [46, 46])
      case true =>
        have hE : Hid (M.pathR s = false) := HBK.out (M.dots_eq (by simpa using d2))
        go_wp2
        go_ret
        exact ⟨by rw [hE.out]; rfl, HB.out⟩
      have g1 : q.data.toList ≠ [46] := by rw [← ByteArray.toList_eq]; simpa using d1
      have g2 : q.data.toList ≠ [46, 46] := by rw [← ByteArray.toList_eq]; simpa using d2
      have G1 : Hid (q.data.toList ≠ [46]) := g1
      have G2 : Hid (q.data.toList ≠ [46, 46]) := g2
      clear g1 g2
      go_wp2
      go_loop [5] (fun i => ∃ m : Nat, m ≤ q.size ∧ i = .int .i64 m ∧ Hid (∀ j, ∀ h : j < q.size, j < m → M.okC q[j] = true)) (fun i => q.size - (intOf i).toNat)
      case atStart => exact ⟨0, Nat.zero_le _, rfl, fun j _ hj => absurd hj (Nat.not_lt_zero _)⟩
      case round =>
        obtain ⟨m, hm, rfl, hall⟩ := hrel
        by_cases hlm : m < q.size
        · rcases (show ((q[m]'hlm).toNat : Int) < 33 ∨ 126 < ((q[m]'hlm).toNat : Int) ∨ (33 ≤ ((q[m]'hlm).toNat : Int) ∧ ((q[m]'hlm).toNat : Int) ≤ 126) from by omega) with ha | ha | ⟨ha, hb⟩
          · have hE : Hid (M.pathR s = false) := HBK.out (M.partR_bad (M.mem_at hlm) (M.okC_lo ha))
            clear hall
            go_wp2
            go_ret
            exact ⟨by rw [hE.out]; rfl, HB.out⟩
          · have hE : Hid (M.pathR s = false) := HBK.out (M.partR_bad (M.mem_at hlm) (M.okC_hi ha))
            have e1 : decide (126 < ((q[m]'hlm).toNat : Int)) = true := decide_eq_true ha
            clear hall
            go_wp2
            go_ret
            exact ⟨by rw [hE.out]; rfl, HB.out⟩
          · have H : Hid (∀ j, ∀ h : j < q.size, j < m + 1 → M.okC q[j] = true) := fun j h hj => by
              by_cases e : j = m
              · subst e; exact M.okC_yes ha hb
              · exact hall.out j h (by omega)
            have e1 : decide (126 < ((q[m]'hlm).toNat : Int)) = false := decide_eq_false (by omega)
            clear hall
            go_wp2
            go_round
            case rel => exact ⟨m + 1, by omega, by go_num, H⟩
            case measure => simp [intOf]; omega
        · have hE : M.partR q.data.toList = true := M.partR_good (by rw [M.len_size]; omega) (by rw [M.len_size]; omega) G1.out G2.out (fun c hc => by
            obtain ⟨j, hj, rfl⟩ := M.at_mem hc
            exact hall.out j hj (by omega))
          have HN : Hid (∀ j (h : j < parts.length), j < k + 1 → M.partR parts[j] = true) := HNX.out hE
          clear hE hall
          go_wp2
          go_round
          case rel => exact ⟨k + 1, by omega, by go_num, HN⟩
          case measure => simp [intOf]; omega
    · have hE : Hid (M.pathR s = true) := HGOOD.out (fun p hp => by
        obtain ⟨j, hj, rfl⟩ := List.getElem_of_mem hp
        exact hall.out j hj (by omega))
      go_wp2
      go_ret
      exact ⟨by rw [hE.out]; rfl, HB.out⟩
end Go.Proofs.YtbmbcfnlpbbapagDoor
