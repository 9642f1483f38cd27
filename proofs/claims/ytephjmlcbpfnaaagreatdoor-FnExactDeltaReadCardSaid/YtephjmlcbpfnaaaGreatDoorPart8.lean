/-
  What partRight of the program does: it tells whether a text is a part of a path.
-/
import Derived.Test.YtephjmlcbpfnaaaGreatDoorRows
import Derived.Test.YtephjmlcbpfnaaaGreatDoorPart6
import Derived.WalkKit
import Derived.WalkSpells
import Derived.WalkLawsBesides
import Derived.Lib.Strings
namespace Go.Proofs.YtephjmlcbpfnaaaGreatDoor
open Go.RowKit

theorem M.dot_eq {q : ByteArray} (h : q.toList = [46]) : M.partR q.data.toList = false := by rw [← ByteArray.toList_eq, h]; exact M.partR_dot
theorem M.dots_eq {q : ByteArray} (h : q.toList = [46, 46]) : M.partR q.data.toList = false := by rw [← ByteArray.toList_eq, h]; exact M.partR_dots
theorem M.mem_at {q : ByteArray} {k : Nat} (h : k < q.size) : q[k] ∈ q.data.toList := by
  rw [Array.mem_toList_iff]
  exact Array.getElem_mem (xs := q.data) h
theorem M.at_mem {q : ByteArray} {c : UInt8} (h : c ∈ q.data.toList) : ∃ k, ∃ h : k < q.size, q[k] = c := by
  rw [Array.mem_toList_iff] at h
  obtain ⟨k, hk, e⟩ := Array.mem_iff_getElem.1 h
  exact ⟨k, hk, e⟩
theorem M.len_size (q : ByteArray) : q.data.toList.length = q.size := by rw [Lib.size_eq]

set_option maxRecDepth 100000 in
set_option maxHeartbeats 1600000 in
theorem iPart_any (q : ByteArray) (w : World) (hs : q.size ≤ maxLen) :
    Calls Tryz.prog 127 #[.string q] w fun e w' => e = .returned (.bool (M.partR q.data.toList)) ∧ w = w' := by
  unfold maxLen at hs
  by_cases hlo : q.size < 1
  · have hE : Hid (M.partR q.data.toList = false) := M.partR_short (by rw [M.len_size]; exact hlo)
    go_enter Tryz.func127, Tryz.ntmps127
    go_wp2
    go_ret
    exact ⟨by rw [hE.out]; rfl, rfl⟩
  by_cases hhi : 60 < q.size
  · have hE : Hid (M.partR q.data.toList = false) := M.partR_long (by rw [M.len_size]; exact hhi)
    go_enter Tryz.func127, Tryz.ntmps127
    go_wp2
    go_ret
    exact ⟨by rw [hE.out]; rfl, rfl⟩
  cases d1 : (q.toList == [46])
  case true =>
    have hE : Hid (M.partR q.data.toList = false) := M.dot_eq (by simpa using d1)
    go_enter Tryz.func127, Tryz.ntmps127
    go_wp2
    go_ret
    exact ⟨by rw [hE.out]; rfl, rfl⟩
  cases d2 : (q.toList == [46, 46])
  case true =>
    have hE : Hid (M.partR q.data.toList = false) := M.dots_eq (by simpa using d2)
    go_enter Tryz.func127, Tryz.ntmps127
    go_wp2
    go_ret
    exact ⟨by rw [hE.out]; rfl, rfl⟩
  have g1 : q.data.toList ≠ [46] := by rw [← ByteArray.toList_eq]; simpa using d1
  have g2 : q.data.toList ≠ [46, 46] := by rw [← ByteArray.toList_eq]; simpa using d2
  have G1 : Hid (q.data.toList ≠ [46]) := g1
  have G2 : Hid (q.data.toList ≠ [46, 46]) := g2
  clear g1 g2
  go_enter Tryz.func127, Tryz.ntmps127
  go_wp2
  go_loop [3] (fun i => ∃ k : Nat, k ≤ q.size ∧ i = .int .i64 k ∧ Hid (∀ j, ∀ h : j < q.size, j < k → M.okC q[j] = true)) (fun i => q.size - (intOf i).toNat)
  case atStart => exact ⟨0, Nat.zero_le _, rfl, fun j _ hj => absurd hj (Nat.not_lt_zero _)⟩
  case round =>
    obtain ⟨k, hk, rfl, hall⟩ := hrel
    by_cases hlt : k < q.size
    · rcases (show ((q[k]'hlt).toNat : Int) < 33 ∨ 126 < ((q[k]'hlt).toNat : Int) ∨ (33 ≤ ((q[k]'hlt).toNat : Int) ∧ ((q[k]'hlt).toNat : Int) ≤ 126) from by omega) with ha | ha | ⟨ha, hb⟩
      · have hE : Hid (M.partR q.data.toList = false) := M.partR_bad (M.mem_at hlt) (M.okC_lo ha)
        clear hall
        go_wp2
        go_ret
        exact ⟨by rw [hE.out]; rfl, rfl⟩
      · have hE : Hid (M.partR q.data.toList = false) := M.partR_bad (M.mem_at hlt) (M.okC_hi ha)
        have e1 : decide (126 < ((q[k]'hlt).toNat : Int)) = true := decide_eq_true ha
        clear hall
        go_wp2
        go_ret
        exact ⟨by rw [hE.out]; rfl, rfl⟩
      · have H : Hid (∀ j, ∀ h : j < q.size, j < k + 1 → M.okC q[j] = true) := fun j h hj => by
          by_cases e : j = k
          · subst e; exact M.okC_yes ha hb
          · exact hall.out j h (by omega)
        have e1 : decide (126 < ((q[k]'hlt).toNat : Int)) = false := decide_eq_false (by omega)
        clear hall
        go_wp2
        go_round
        case rel => exact ⟨k + 1, by omega, by go_num, H⟩
        case measure => simp [intOf]; omega
    · have hE : Hid (M.partR q.data.toList = true) := M.partR_good (by rw [M.len_size]; omega) (by rw [M.len_size]; omega) G1.out G2.out (fun c hc => by
        obtain ⟨j, hj, rfl⟩ := M.at_mem hc
        exact hall.out j hj (by omega))
      go_wp2
      go_ret
      exact ⟨by rw [hE.out]; rfl, rfl⟩
end Go.Proofs.YtephjmlcbpfnaaaGreatDoor

/-
  What l01Split of the specification does: the parts of a text between the bytes d.
-/
namespace Go.Proofs.YtephjmlcbpfnaaaGreatDoor
open Go.RowKit

theorem Tryz.infoS : (Tryz.prog.info? 9).map (fun i => (i.zero, i.size, i.bytes)) = some (some (.string ⟨#[]⟩), 1, 16) := by kernel_rfl

set_option maxRecDepth 100000 in
set_option maxHeartbeats 1600000 in
theorem split_any (s : ByteArray) (d : UInt8) (w : World) (hs : s.size ≤ 100000) :
    Calls Tryz.prog 86 #[.string s, .int .u8 d.toNat] w fun e w' => ∃ v, e = .returned v ∧ w'.ownsRow w.heap.size 9 1 v (M.splitL d [] s.data.toList).length (M.strs (M.splitL d [] s.data.toList)) ∧ Below w.heap.size w w' := by
  obtain ⟨i0, hi, hz0, hz1, hz2⟩ := info_parts Tryz.infoS
  go_enter Tryz.func86, Tryz.ntmps86
  go_wp2
  go_loopw [5, 6, 7] (fun v fr i wr => ∃ (out : List (List UInt8)) (f k : Nat), fr = .int .i64 f ∧ i = .int .i64 k ∧ f ≤ k ∧ k ≤ s.size ∧ out.length ≤ k ∧ Hid (out ++ M.splitL d ((s.data.toList.drop f).take (k - f)) (s.data.toList.drop k) = M.splitL d [] s.data.toList) ∧ wr.ownsRow w.heap.size 9 1 v out.length (M.strs out) ∧ Below w.heap.size w wr) (fun _ _ i _ => s.size - (intOf i).toNat)
  case atStart => exact ⟨[], 0, 0, rfl, rfl, Nat.le_refl _, Nat.zero_le _, Nat.le_refl _, rfl, ⟨rfl, .inr ⟨_, 0, #[], rfl, Nat.le_refl _, heap_alloc_new _ _, Nat.le_refl _, by decide, rfl, rfl⟩⟩, (Below.refl _ _).alloc (Nat.le_refl _) _⟩
  case round =>
    obtain ⟨out, f, k, rfl, rfl, hfk, hk, hol, HE, hown, hbel⟩ := hrel
    by_cases hlt : k < s.size
    · by_cases hc : s[k] = d
      · have H2 : Hid ((out ++ [(s.data.toList.drop f).take (k - f)]) ++ M.splitL d ((s.data.toList.drop (k + 1)).take (k + 1 - (k + 1))) (s.data.toList.drop (k + 1)) = M.splitL d [] s.data.toList) := by
          have := HE.out
          rw [M.drop_at s k hlt, M.splitL_hit hc] at this
          show _ = _
          rw [← this]; simp
        have hq : (((s[k]'hlt).toNat : Int) == (d.toNat : Int)) = true := by rw [hc]; simp
        have HX : Hid (s.extract f k = ⟨((s.data.toList.drop f).take (k - f)).toArray⟩) := M.cut_mk s f k
        clear HE hc
        go_wp2_with (at_builtin; refine wpList_append_own _ rfl (.tmp 20) (.tmp 25) 22 rfl w.heap.size 9 i0 (.string ⟨#[]⟩) 1 16 Tryz.underlying22 hi hz0 hz1 hz2 rfl (by decide) _ _ _ rfl (hown.alloc _) ⟨wr.heap.size, 0, none⟩ 1 1 [.string (s.extract f k)] rfl rfl (cell_one_new _ _ _) ?c2 ?c3 ?c4 ?c5 ?_)
        case c2 => intro x hx; simp at hx; subst hx; rfl
        case c3 => unfold maxLen; omega
        case c4 => omega
        case c5 => have := hbel.size; simp; omega
        intro v' w1 hown' hgrow _
        rw [HX.out, M.strs_snoc] at hown'
        have hb1 : Below w.heap.size w w1 := (hbel.alloc hbel.size _).grown hgrow (by have := hbel.size; simp; omega) (fun k hk => (hown.lt k hk).1)
        clear hgrow hown hbel
        go_wp2
        go_roundw
        case rel => exact ⟨out ++ [(s.data.toList.drop f).take (k - f)], k + 1, k + 1, by go_num, by go_num, Nat.le_refl _, by omega, by simp; omega, H2, by rw [List.length_append]; exact hown', hb1⟩
        case measure => simp [intOf]; omega
      · have H2 : Hid (out ++ M.splitL d ((s.data.toList.drop f).take (k + 1 - f)) (s.data.toList.drop (k + 1)) = M.splitL d [] s.data.toList) := by
          have := HE.out
          rw [M.drop_at s k hlt, M.splitL_miss hc, ← M.cut_snoc s f k hfk hlt] at this
          exact this
        have hq : (((s[k]'hlt).toNat : Int) == (d.toNat : Int)) = false := beq_eq_false_iff_ne.2 (fun e => hc (UInt8.toNat_inj.1 (by omega)))
        clear HE hc
        go_wp2
        go_roundw
        case rel => exact ⟨out, f, k + 1, rfl, by go_num, by omega, by omega, by omega, H2, hown, hbel⟩
        case measure => simp [intOf]; omega
    · have H2 : Hid (out ++ [(s.data.toList.drop f).take (s.size - f)] = M.splitL d [] s.data.toList) := by
        have := HE.out
        obtain rfl : k = s.size := by omega
        rw [List.drop_of_length_le (show s.data.toList.length ≤ s.size by rw [← Lib.size_eq]; exact Nat.le_refl _), M.splitL] at this
        exact this
      have HX : Hid (s.extract f s.size = ⟨((s.data.toList.drop f).take (s.size - f)).toArray⟩) := M.cut_mk s f s.size
      clear HE
      go_wp2_with (at_builtin; refine wpList_append_own _ rfl (.tmp 29) (.tmp 33) 22 rfl w.heap.size 9 i0 (.string ⟨#[]⟩) 1 16 Tryz.underlying22 hi hz0 hz1 hz2 rfl (by decide) _ _ _ rfl (hown.alloc _) ⟨wr.heap.size, 0, none⟩ 1 1 [.string (s.extract f s.size)] rfl rfl (cell_one_new _ _ _) ?d2 ?d3 ?d4 ?d5 ?_)
      case d2 => intro x hx; simp at hx; subst hx; rfl
      case d3 => unfold maxLen; omega
      case d4 => omega
      case d5 => have := hbel.size; simp; omega
      intro v' w1 hown' hgrow _
      rw [HX.out, M.strs_snoc] at hown'
      have hb1 : Below w.heap.size w w1 := (hbel.alloc hbel.size _).grown hgrow (by have := hbel.size; simp; omega) (fun k hk => (hown.lt k hk).1)
      have HO : Hid (w1.ownsRow w.heap.size 9 1 v' (out ++ [(s.data.toList.drop f).take (s.size - f)]).length (M.strs (out ++ [(s.data.toList.drop f).take (s.size - f)]))) := by
        show World.ownsRow _ _ _ _ _ _ _
        rw [List.length_append]; exact hown'
      clear hgrow hown hbel hown'
      go_wp2
      go_ret
      exact ⟨v', rfl, by rw [← H2.out]; exact HO.out, hb1⟩
end Go.Proofs.YtephjmlcbpfnaaaGreatDoor

/-
  What PathRight of the specification does: it tells whether a text is a path.
-/
namespace Go.Proofs.YtephjmlcbpfnaaaGreatDoor
open Go.RowKit

/-- The parts of a path lie in a row. -/
theorem M.parts_row {w : World} {base T : Nat} {v : Value} {parts : List (List UInt8)} (h : w.ownsRow base T 1 v parts.length (M.strs parts)) (hp : 0 < parts.length) :
    ∃ g cap, v = .slice (some ⟨g, 0, none⟩) parts.length cap ∧ ∀ i (hi : i < parts.length), w.cell? ⟨g, i, none⟩ = some (.string ⟨(parts[i]).toArray⟩) := by
  obtain ⟨hl, ⟨_, h0⟩ | ⟨g, cp, cur, hv, hb, hh, hn, hc, hz, ht⟩⟩ := h
  · rw [h0] at hp; simp at hp
  · refine ⟨g, cp, hv, fun i hi => ?_⟩
    have e : (M.strs parts)[i]? = some (.string ⟨(parts[i]).toArray⟩) := by simp [M.strs, hi]
    rw [← ht, List.getElem?_take_of_lt (by omega)] at e
    simp only [World.cell?, hh]
    simpa using e
theorem M.splitL_pos (d : UInt8) (l cur : List UInt8) : 0 < (M.splitL d cur l).length := by
  obtain ⟨p, ps, _, h⟩ := M.splitL_cur d l cur
  rw [h]; simp

set_option maxRecDepth 100000 in
set_option maxHeartbeats 3200000 in
theorem sPath_any (s : ByteArray) (w : World) (hs : s.size ≤ maxLen) :
    Calls Tryz.prog 50 #[.string s] w fun e w' => e = .returned (.bool (M.pathR s)) ∧ Below w.heap.size w w' := by
  unfold maxLen at hs
  by_cases hlo : s.size < 1
  · have hE : Hid (M.pathR s = false) := M.pathR_empty hlo
    go_enter Tryz.func50, Tryz.ntmps50
    go_wp2
    go_ret
    exact ⟨by rw [hE.out]; rfl, Below.refl _ _⟩
  by_cases hhi : 150 < s.size
  · have hE : Hid (M.pathR s = false) := M.pathR_long hhi
    go_enter Tryz.func50, Tryz.ntmps50
    go_wp2
    go_ret
    exact ⟨by rw [hE.out]; rfl, Below.refl _ _⟩
  have hS := split_any s 47 w (by omega)
  rw [show ((47 : UInt8).toNat : Int) = 47 from rfl] at hS
  have hpos := M.splitL_pos 47 s.data.toList []
  have hcnt := M.splitL_count 47 s.data.toList []
  rw [M.len_size] at hcnt
  have HLE : Hid (∀ p ∈ M.splitL 47 [] s.data.toList, p.length ≤ 150) := fun p hp => by
    have := M.splitL_le 47 s.data.toList [] p hp
    rw [M.len_size] at this; simp at this; omega
  have HBAD : Hid (∀ p ∈ M.splitL 47 [] s.data.toList, M.partR p = false → M.pathR s = false) := fun p hp h => M.pathR_bad hp h
  have HGOOD : Hid ((∀ p ∈ M.splitL 47 [] s.data.toList, M.partR p = true) → M.pathR s = true) := fun h => M.pathR_good (by omega) h
  generalize M.splitL 47 [] s.data.toList = parts at hS hpos hcnt HLE HBAD HGOOD
  have HS : Hid (Calls Tryz.prog 86 #[.string s, .int .u8 47] w fun e w' => ∃ v, e = .returned v ∧ w'.ownsRow w.heap.size 9 1 v parts.length (M.strs parts) ∧ Below w.heap.size w w') := hS
  clear hS
  go_enter Tryz.func50, Tryz.ntmps50
  go_wp2_with fail
  refine HS.out.mono ?_
  rintro e w1 ⟨v, rfl, hown, hbel⟩
  obtain ⟨g, cap, rfl, hcell⟩ := M.parts_row hown hpos
  have HC : Hid (∀ i (hi : i < parts.length), w1.cell? ⟨g, i, none⟩ = some (.string ⟨(parts[i]).toArray⟩)) := hcell
  have HB : Hid (Below w.heap.size w w1) := hbel
  clear hown hbel hcell
  go_wp2
  go_loop [4] (fun i => ∃ k : Nat, k ≤ parts.length ∧ i = .int .i64 k ∧ Hid (∀ j (h : j < parts.length), j < k → M.partR parts[j] = true)) (fun i => parts.length - (intOf i).toNat)
  case atStart => exact ⟨0, Nat.zero_le _, rfl, fun j _ hj => absurd hj (Nat.not_lt_zero _)⟩
  case round =>
    obtain ⟨k, hk, rfl, hall⟩ := hrel
    by_cases hlt : k < parts.length
    · have hc := HC.out k hlt
      have hmem : parts[k] ∈ parts := List.getElem_mem hlt
      have hle := HLE.out _ hmem
      have HBK : Hid (M.partR parts[k] = false → M.pathR s = false) := fun h => HBAD.out _ hmem h
      have HNX : Hid (M.partR parts[k] = true → ∀ j (h : j < parts.length), j < k + 1 → M.partR parts[j] = true) := fun hp j h hj => by
        by_cases e : j = k
        · subst e; exact hp
        · exact hall.out j h (by omega)
      clear hmem hall
      obtain ⟨q, hq⟩ : ∃ q : ByteArray, q = ⟨(parts[k]).toArray⟩ := ⟨_, rfl⟩
      have hqe : parts[k] = q.data.toList := by rw [hq]
      rw [← hq] at hc
      rw [hqe] at hle HBK HNX
      rw [M.len_size] at hle
      clear hq hqe
      by_cases hl1 : q.size < 1
      · have hE : Hid (M.pathR s = false) := HBK.out (M.partR_short (by rw [M.len_size]; exact hl1))
        go_wp2
        go_ret
        exact ⟨by rw [hE.out]; rfl, HB.out⟩
      by_cases hl2 : 60 < q.size
      · have hE : Hid (M.pathR s = false) := HBK.out (M.partR_long (by rw [M.len_size]; exact hl2))
        go_wp2
        go_ret
        exact ⟨by rw [hE.out]; rfl, HB.out⟩
      cases d1 : (q.toList == [46])
      case true =>
        have hE : Hid (M.pathR s = false) := HBK.out (M.dot_eq (by simpa using d1))
        go_wp2
        go_ret
        exact ⟨by rw [hE.out]; rfl, HB.out⟩
      cases d2 : (q.toList == [46, 46])
      case true =>
        have hE : Hid (M.pathR s = false) := HBK.out (M.dots_eq (by simpa using d2))
        go_wp2
        go_ret
        exact ⟨by rw [hE.out]; rfl, HB.out⟩
      have g1 : q.data.toList ≠ [46] := by rw [← ByteArray.toList_eq]; simpa using d1
      have g2 : q.data.toList ≠ [46, 46] := by rw [← ByteArray.toList_eq]; simpa using d2
      have G1 : Hid (q.data.toList ≠ [46]) := g1
      have G2 : Hid (q.data.toList ≠ [46, 46]) := g2
      clear g1 g2
      go_wp2
      go_loop [5] (fun i => ∃ m : Nat, m ≤ q.size ∧ i = .int .i64 m ∧ Hid (∀ j, ∀ h : j < q.size, j < m → M.okC q[j] = true)) (fun i => q.size - (intOf i).toNat)
      case atStart => exact ⟨0, Nat.zero_le _, rfl, fun j _ hj => absurd hj (Nat.not_lt_zero _)⟩
      case round =>
        obtain ⟨m, hm, rfl, hall⟩ := hrel
        by_cases hlm : m < q.size
        · rcases (show ((q[m]'hlm).toNat : Int) < 33 ∨ 126 < ((q[m]'hlm).toNat : Int) ∨ (33 ≤ ((q[m]'hlm).toNat : Int) ∧ ((q[m]'hlm).toNat : Int) ≤ 126) from by omega) with ha | ha | ⟨ha, hb⟩
          · have hE : Hid (M.pathR s = false) := HBK.out (M.partR_bad (M.mem_at hlm) (M.okC_lo ha))
            clear hall
            go_wp2
            go_ret
            exact ⟨by rw [hE.out]; rfl, HB.out⟩
          · have hE : Hid (M.pathR s = false) := HBK.out (M.partR_bad (M.mem_at hlm) (M.okC_hi ha))
            have e1 : decide (126 < ((q[m]'hlm).toNat : Int)) = true := decide_eq_true ha
            clear hall
            go_wp2
            go_ret
            exact ⟨by rw [hE.out]; rfl, HB.out⟩
          · have H : Hid (∀ j, ∀ h : j < q.size, j < m + 1 → M.okC q[j] = true) := fun j h hj => by
              by_cases e : j = m
              · subst e; exact M.okC_yes ha hb
              · exact hall.out j h (by omega)
            have e1 : decide (126 < ((q[m]'hlm).toNat : Int)) = false := decide_eq_false (by omega)
            clear hall
            go_wp2
            go_round
            case rel => exact ⟨m + 1, by omega, by go_num, H⟩
            case measure => simp [intOf]; omega
        · have hE : M.partR q.data.toList = true := M.partR_good (by rw [M.len_size]; omega) (by rw [M.len_size]; omega) G1.out G2.out (fun c hc => by
            obtain ⟨j, hj, rfl⟩ := M.at_mem hc
            exact hall.out j hj (by omega))
          have HN : Hid (∀ j (h : j < parts.length), j < k + 1 → M.partR parts[j] = true) := HNX.out hE
          clear hE hall
          go_wp2
          go_round
          case rel => exact ⟨k + 1, by omega, by go_num, HN⟩
          case measure => simp [intOf]; omega
    · have hE : Hid (M.pathR s = true) := HGOOD.out (fun p hp => by
        obtain ⟨j, hj, rfl⟩ := List.getElem_of_mem hp
        exact hall.out j hj (by omega))
      go_wp2
      go_ret
      exact ⟨by rw [hE.out]; rfl, HB.out⟩
end Go.Proofs.YtephjmlcbpfnaaaGreatDoor

/-
  What l02Is of the specification does.
-/
namespace Go.Proofs.YtephjmlcbpfnaaaGreatDoor
open Go.RowKit

set_option maxHeartbeats 400000 in
theorem sIs_any (n lo hi : Int) (w : World) :
    Calls Tryz.prog 124 #[.int .i64 n, .int .i64 lo, .int .i64 hi] w fun e w' => e = .returned (.bool (decide (lo ≤ n ∧ n ≤ hi))) ∧ w = w' := by
  by_cases ha : lo ≤ n
  · by_cases hb : n ≤ hi
    · have hE : Hid (decide (lo ≤ n ∧ n ≤ hi) = true) := decide_eq_true ⟨ha, hb⟩
      have d1 : decide (lo ≤ n) = true := decide_eq_true ha
      have d2 : decide (n ≤ hi) = true := decide_eq_true hb
      go_enter Tryz.func124, Tryz.ntmps124
      go_wp2
      go_ret
      exact ⟨by first | rfl | (rw [hE.out]; rfl), rfl⟩
    · have hE : Hid (decide (lo ≤ n ∧ n ≤ hi) = false) := decide_eq_false (fun h => hb h.2)
      have d1 : decide (lo ≤ n) = true := decide_eq_true ha
      have d2 : decide (n ≤ hi) = false := decide_eq_false hb
      go_enter Tryz.func124, Tryz.ntmps124
      go_wp2
      go_ret
      exact ⟨by first | rfl | (rw [hE.out]; rfl), rfl⟩
  · have hE : Hid (decide (lo ≤ n ∧ n ≤ hi) = false) := decide_eq_false (fun h => ha h.1)
    have d1 : decide (lo ≤ n) = false := decide_eq_false ha
    go_enter Tryz.func124, Tryz.ntmps124
    go_wp2
    go_ret
    exact ⟨by first | rfl | (rw [hE.out]; rfl), rfl⟩

end Go.Proofs.YtephjmlcbpfnaaaGreatDoor

/-
  What l02Time of the specification does.
-/
namespace Go.Proofs.YtephjmlcbpfnaaaGreatDoor
open Go.RowKit

set_option maxHeartbeats 400000 in
theorem sTime_any (n : Int) (w : World) :
    Calls Tryz.prog 125 #[.int .i64 n] w fun e w' => e = .returned (.bool (decide (0 ≤ n ∧ n ≤ 1000000000))) ∧ w = w' := by
  have HI : Hid (∀ W, Calls Tryz.prog 124 #[.int .i64 n, .int .i64 0, .int .i64 1000000000] W fun e w' => e = .returned (.bool (decide (0 ≤ n ∧ n ≤ 1000000000))) ∧ W = w') := fun W => sIs_any n 0 1000000000 W
  generalize decide (0 ≤ n ∧ n ≤ 1000000000) = b at HI
  go_enter Tryz.func125, Tryz.ntmps125
  go_wp2_with (go_at_call 124; refine (HI.out _).mono ?_; rintro e w' ⟨rfl, rfl⟩)
  go_ret
  exact ⟨rfl, rfl⟩

end Go.Proofs.YtephjmlcbpfnaaaGreatDoor
