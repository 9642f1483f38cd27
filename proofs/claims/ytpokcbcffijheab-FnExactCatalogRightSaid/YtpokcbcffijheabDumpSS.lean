/-
  What szDumpS, toDumpS and eqDumpS of the laws do.
-/
import Derived.Test.YtpokcbcffijheabOwnDump
import Derived.Test.YtpokcbcffijheabDumpSW
import Derived.Deep.RegionWith
import Derived.Test.YtpokcbcffijheabInfoDp
namespace Go.Proofs.Ytpokcbcffijheab
open Go.RowKit


set_option maxRecDepth 100000 in
set_option maxHeartbeats 1600000 in
theorem szDumpS_any (w : World) (a : Option Addr) (len cap : Nat) (ds : List M.DumpD) (h : M.Dps w a len cap ds) (hok : ∀ d ∈ ds, M.dok d) :
    Calls Try.prog 7 #[.slice a len cap, .int .i64 1048576] w fun e w' => ∃ v : Int, e = .returned (.int .i64 v) ∧ v ≤ 1048576 ∧ (0 ≤ v → v + len + M.dln ds ≤ 1048576) ∧ Below w.heap.size w w' := by
  have hlm : len ≤ 9223372036854775807 := h.max
  have HF := M.hl h
  have HOK := M.hl hok
  clear h hok
  by_cases hl : (1048576 : Int) - len < 0
  · go_enter Try.func7, Try.ntmps7
    go_wp2
    go_ret
    exact ⟨-1, rfl, by omega, fun h => by omega, Below.refl _ _⟩
  go_enter Try.func7, Try.ntmps7
  go_wp2
  go_loopw [1, 5] (fun z i wr => ∃ (k : Nat) (l : Int), i = .int .i64 k ∧ z = .int .i64 l ∧ k ≤ len ∧ 0 ≤ l ∧ l ≤ 1048576 ∧ Hid (l + len + M.dln (ds.take k) ≤ 1048576) ∧ Hid (Below w.heap.size w wr)) (fun _ i _ => len - (intOf i).toNat)
  case atStart => exact ⟨0, _, rfl, rfl, Nat.zero_le _, by omega, by omega, by show _ ≤ _; simp [M.dln], Below.refl _ _⟩
  case round =>
    obtain ⟨k, l, rfl, rfl, hk, hl0, hl2, HL, HBr⟩ := hrel
    by_cases hlt : k < len
    · obtain ⟨b, off, d, rfl, hfk, hat⟩ := (HF.out.below HBr.out).at hlt
      have HFK := M.hl hfk
      have ho := HOK.out d (List.mem_of_getElem? hfk)
      have hz : d.host.size ≤ maxLen := ho.2.1
      obtain ⟨x1, hs, x2, x3, x4, x5, x6, x7, ps⟩ := d
      obtain ⟨⟨c0, c1, c2, c3, c4, c5, c6, c7⟩, a', n', c', c8, hp⟩ := hat
      simp only at c0 c1 c2 c3 c4 c5 c6 c7 c8 hp hz
      have HN : Hid (n' = ps.length) := hp.1
      have CT : Hid (Calls Try.prog 12 #[.agg #[.int .i64 x1, .string hs, .int .i64 x2, .int .i64 x3, .int .i64 x4, .int .i64 x5, .int .i64 x6, .int .i64 x7, .slice a' n' c'], .int .i64 l] wr fun e w' => ∃ v : Int, e = .returned (.int .i64 v) ∧ v ≤ l ∧ (0 ≤ v → v + n' + hs.size ≤ l) ∧ Below wr.heap.size wr w') := szDump_any wr x1 hs x2 x3 x4 x5 x6 x7 a' n' c' l hp.max hz hl0 hl2
      clear hp hfk ho hz
      go_wp2_with fail
      refine CT.out.mono ?_
      rintro e w2 ⟨v, rfl, hv1, hv2, hb2⟩
      have HV2 := M.hl hv2
      have HB2 : Hid (Below w.heap.size w w2) := HBr.out.trans (hb2.mono HBr.out.size)
      clear hv2 hb2 c0 c1 c2 c3 c4 c5 c6 c7 c8
      by_cases hneg : v < 0
      · go_wp2
        go_ret
        exact ⟨-1, rfl, by omega, fun h => by omega, HB2.out⟩
      · have HL2 : Hid (v + len + M.dln (ds.take (k + 1)) ≤ 1048576) := by
          show _ ≤ _
          rw [M.dln_take HFK.out]
          have := HL.out
          have := HV2.out (by omega)
          have := HN.out
          simp only
          omega
        go_wp2
        go_roundw
        case rel => exact ⟨k + 1, v, by go_num, rfl, by omega, by omega, by omega, HL2, HB2⟩
        case measure => simp [intOf]; omega
    · have HL2 : Hid (l + len + M.dln ds ≤ 1048576) := by have := HL.out; rwa [List.take_of_length_le (by have := HF.out.1; omega)] at this
      go_wp2
      go_ret
      exact ⟨l, rfl, by omega, fun _ => HL2.out, HBr.out⟩

set_option maxRecDepth 100000 in
set_option maxHeartbeats 1600000 in
theorem eqDumpS_same (w : World) (a a' : Option Addr) (len cap len' cap' : Nat) (ds : List M.DumpD) (h : M.Dps w a len cap ds) (h' : M.Dps w a' len' cap' ds) :
    Calls Try.prog 11 #[.slice a len cap, .slice a' len' cap'] w fun e w' => e = .returned (.bool true) ∧ Below w.heap.size w w' := by
  have hlm : len ≤ 9223372036854775807 := h.max
  have HF := M.hl h
  have HG := M.hl h'
  obtain rfl : len = len' := by rw [h.1, h'.1]
  clear h h'
  have d0 : ((len : Int) != (len : Int)) = false := by simp
  go_enter Try.func11, Try.ntmps11
  go_wp2
  go_loopw [5] (fun i wr => ∃ k : Nat, i = .int .i64 k ∧ k ≤ len ∧ Hid (Below w.heap.size w wr)) (fun i _ => len - (intOf i).toNat)
  case atStart => exact ⟨0, rfl, Nat.zero_le _, Below.refl _ _⟩
  case round =>
    obtain ⟨k, rfl, hk, HBr⟩ := hrel
    by_cases hlt : k < len
    · obtain ⟨b, off, d, rfl, hfk, hat⟩ := (HF.out.below HBr.out).at hlt
      obtain ⟨b', off', d', rfl, hfk', hat'⟩ := (HG.out.below HBr.out).at hlt
      obtain rfl := Option.some.inj (hfk.symm.trans hfk')
      obtain ⟨x1, hs, x2, x3, x4, x5, x6, x7, ps⟩ := d
      obtain ⟨⟨c0, c1, c2, c3, c4, c5, c6, c7⟩, p1, n1, k1, c8, hp⟩ := hat
      obtain ⟨⟨e0, e1, e2, e3, e4, e5, e6, e7⟩, p2, n2, k2, e8, hp'⟩ := hat'
      simp only at c0 c1 c2 c3 c4 c5 c6 c7 c8 hp e0 e1 e2 e3 e4 e5 e6 e7 e8 hp'
      have BD : Below wr.heap.size wr wr.drew := (Below.refl _ _).drew
      have HQ := M.hl (eqDump_same wr.drew x1 hs x2 x3 x4 x5 x6 x7 p1 p2 n1 k1 n2 k2 ps (hp.below BD) (hp'.below BD))
      clear hp hp' hfk hfk' BD
      go_wp2_with fail
      go_region_with (go_at_call 16; refine HQ.out.mono ?_; rintro e w2 ⟨rfl, hb2⟩)
      all_goals
        go_wp2
        go_roundw
        case rel => exact ⟨k + 1, by go_num, by omega, M.hl (HBr.out.trans (((Below.refl _ _).drew.trans (hb2.mono ((Below.refl wr.heap.size wr).drew.size))).mono HBr.out.size))⟩
        case measure => simp [intOf]; omega
    · go_wp2
      go_ret
      exact ⟨rfl, HBr.out⟩

set_option maxRecDepth 100000 in
set_option maxHeartbeats 3200000 in
theorem toDumpS_any (w : World) (a : Option Addr) (len cap : Nat) (ds : List M.DumpD) (h : M.Dps w a len cap ds) (hlen : len + M.dln ds ≤ 1048576) :
    Calls Try.prog 9 #[.slice a len cap] w fun e w' => ∃ (b : Nat) (ps : List (M.DumpD × Value)), e = .returned (.slice (some ⟨b, 0, none⟩) len len) ∧ ps.map Prod.fst = ds ∧ M.OwnD w' w.heap.size w'.heap.size (.slice (some ⟨b, 0, none⟩) len len) ps ∧ Below w.heap.size w w' := by
  obtain ⟨i0, hi, hz0, hz1, hz2⟩ := info_parts Try.infoDp
  have HF := M.hl h
  have HN : Hid (len = ds.length) := h.1
  clear h
  go_enter Try.func9, Try.ntmps9
  go_wp2_with (at_make; refine wpList_make_full _ rfl (.tmp 6) (.tmp 6) 25 rfl w.heap.size 36 i0 _ 9 Try.underlying25 hi hz0 hz1 .i64 .i64 _ _ len rfl rfl rfl rfl ?c3 ?c4 ?c5 ?_)
  case c3 => rw [hz2]; omega
  case c4 => unfold maxLen; omega
  case c5 => exact Nat.le_refl _
  intro w1 hown hgrow
  have hrow : M.Row w1 w.heap.size 36 (len * 9) := by
    obtain ⟨hl, h | ⟨g, cp, cur, hv, hb, hh, hn, hc, hz, ht⟩⟩ := hown
    · simp at h
    · simp only [Value.slice.injEq, Option.some.injEq, Addr.mk.injEq] at hv
      obtain ⟨⟨rfl, _, _⟩, _, rfl⟩ := hv
      exact ⟨cur, hh, hz⟩
  have hb1 : Below w.heap.size w w1 := ⟨hgrow.os, hgrow.tape, hgrow.output, hgrow.size, fun k hk => hgrow.block k hk (by simp)⟩
  have HROW := M.hl hrow
  have HB1 := M.hl hb1
  clear hown hgrow hrow hb1
  go_wp2
  go_loopw [4] (fun i wr => ∃ (k : Nat) (ps : List (M.DumpD × Value)), i = .int .i64 k ∧ k ≤ len ∧ Hid (M.Row wr w.heap.size 36 (len * 9)) ∧ Hid (ps.map Prod.fst = ds.take k) ∧ Hid (M.DAt wr w.heap.size ps) ∧ Hid (M.ownAllD wr (w.heap.size + 1) ps) ∧ Hid (Below w.heap.size w wr)) (fun i _ => len - (intOf i).toNat)
  case atStart => exact ⟨0, [], rfl, Nat.zero_le _, HROW, rfl, (fun i p hp => by simp at hp), ⟨fun p hp => by simp at hp, List.Pairwise.nil⟩, HB1⟩
  case round =>
    obtain ⟨k, ps, rfl, hk, HRr, HM, HPr, HOr, HBr⟩ := hrel
    have HPL : Hid (ps.length = k) := by
      show _ = _
      have := congrArg List.length HM.out
      rw [List.length_map, List.length_take, ← HN.out] at this
      omega
    by_cases hlt : k < len
    · obtain ⟨b, off, d, rfl, hfk, hat⟩ := (HF.out.below HBr.out).at hlt
      have HFK := M.hl hfk
      have hn1 : d.ps.length ≤ 1048576 := by have := M.dln_mem hfk; omega
      obtain ⟨x1, hs, x2, x3, x4, x5, x6, x7, qs⟩ := d
      obtain ⟨⟨c0, c1, c2, c3, c4, c5, c6, c7⟩, a', n', c', c8, hp⟩ := hat
      simp only at c0 c1 c2 c3 c4 c5 c6 c7 c8 hp hn1
      have HW : Hid (w.heap.size < wr.heap.size) := HRr.out.lt
      have CT := M.hl (toDump_any wr x1 hs x2 x3 x4 x5 x6 x7 a' n' c' qs hp (by rw [hp.1]; exact hn1))
      clear hp hfk hn1
      go_wp2_with fail
      refine CT.out.mono ?_
      rintro e w2 ⟨q, rfl, hO, hq, hqw, hb2⟩
      have hblk := hb2.block w.heap.size HRr.out.lt
      have hR2 := HRr.out.of_block hblk
      have HR2 := M.hl hR2
      have HP2 := M.hl (HPr.out.of_block hblk)
      have HO2 := M.hl (HOr.out.below hb2)
      have HO := M.hl hO
      have HQ := M.hl hq
      have HNE : Hid (∀ p ∈ ps, ∀ g, p.2.ownBlock = some g → (Value.slice (some ⟨q, 0, none⟩) n' n').ownBlock ≠ some g) := fun p hp g hg e => by
        have h1 := (HOr.out.1 p hp).2 g hg
        have h2 := Option.some.inj e
        simp at h2
        omega
      have HB2 : Hid (Below w.heap.size w w2) := HBr.out.trans (hb2.mono HBr.out.size)
      obtain ⟨v0, g0⟩ := hR2.cell (i := k * 9) (by omega)
      obtain ⟨v1, g1⟩ := hR2.cell (i := k * 9 + 1) (by omega)
      obtain ⟨v2, g2⟩ := hR2.cell (i := k * 9 + 2) (by omega)
      obtain ⟨v3, g3⟩ := hR2.cell (i := k * 9 + 3) (by omega)
      obtain ⟨v4, g4⟩ := hR2.cell (i := k * 9 + 4) (by omega)
      obtain ⟨v5, g5⟩ := hR2.cell (i := k * 9 + 5) (by omega)
      obtain ⟨v6, g6⟩ := hR2.cell (i := k * 9 + 6) (by omega)
      obtain ⟨v7, g7⟩ := hR2.cell (i := k * 9 + 7) (by omega)
      obtain ⟨v8, g8⟩ := hR2.cell (i := k * 9 + 8) (by omega)
      have fr := hR2.free
      clear hb2 hblk hR2 c0 c1 c2 c3 c4 c5 c6 c7 c8 hO hq hqw
      go_wp2
      go_roundw
      case rel =>
        have E : M.putL w.heap.size (k * 9) (M.dcells (⟨x1, hs, x2, x3, x4, x5, x6, x7, qs⟩, .slice (some ⟨q, 0, none⟩) n' n')) w2 = (((((((((w2.setCell ⟨w.heap.size, k * 9, none⟩ (.int .i64 x1)).setCell ⟨w.heap.size, k * 9 + 1, none⟩ (.string hs)).setCell ⟨w.heap.size, k * 9 + 2, none⟩ (.int .i64 x2)).setCell ⟨w.heap.size, k * 9 + 3, none⟩ (.int .i64 x3)).setCell ⟨w.heap.size, k * 9 + 4, none⟩ (.int .i64 x4)).setCell ⟨w.heap.size, k * 9 + 5, none⟩ (.int .i64 x5)).setCell ⟨w.heap.size, k * 9 + 6, none⟩ (.int .i64 x6)).setCell ⟨w.heap.size, k * 9 + 7, none⟩ (.int .i64 x7)).setCell ⟨w.heap.size, k * 9 + 8, none⟩ (.slice (some ⟨q, 0, none⟩) n' n')) := M.putL9 w2 w.heap.size (k * 9) (.int .i64 x1) (.string hs) (.int .i64 x2) (.int .i64 x3) (.int .i64 x4) (.int .i64 x5) (.int .i64 x6) (.int .i64 x7) (.slice (some ⟨q, 0, none⟩) n' n')
        rw [← E]
        have hPP := M.hl (HP2.out.push (p := (⟨x1, hs, x2, x3, x4, x5, x6, x7, qs⟩, .slice (some ⟨q, 0, none⟩) n' n')) HR2.out HPL.out (by omega))
        have hRR := M.hl (M.putL_row (M.dcells (⟨x1, hs, x2, x3, x4, x5, x6, x7, qs⟩, .slice (some ⟨q, 0, none⟩) n' n')) (k * 9) HR2.out)
        have hBB := M.hl (M.putL_below (M.dcells (⟨x1, hs, x2, x3, x4, x5, x6, x7, qs⟩, .slice (some ⟨q, 0, none⟩) n' n')) (k * 9) HB2.out (Nat.le_refl _))
        have hOO : Hid (M.ownAllD (M.putL w.heap.size (k * 9) (M.dcells (⟨x1, hs, x2, x3, x4, x5, x6, x7, qs⟩, .slice (some ⟨q, 0, none⟩) n' n')) w2) (w.heap.size + 1) (ps ++ [(⟨x1, hs, x2, x3, x4, x5, x6, x7, qs⟩, .slice (some ⟨q, 0, none⟩) n' n')])) := by
          refine M.ownAllD.snoc (HO2.out.put (o := k * 9) (by omega) (M.dcells (⟨x1, hs, x2, x3, x4, x5, x6, x7, qs⟩, .slice (some ⟨q, 0, none⟩) n' n'))) ?_ HNE.out
          have := HW.out
          have := HQ.out
          exact M.putL_pt (fun b hb => by have h2 := Option.some.inj hb; simp at h2; omega) _ _ (HO.out.down (by omega))
        clear E
        generalize M.putL w.heap.size (k * 9) (M.dcells (⟨x1, hs, x2, x3, x4, x5, x6, x7, qs⟩, .slice (some ⟨q, 0, none⟩) n' n')) w2 = w3 at hPP hRR hBB hOO
        refine ⟨k + 1, ps ++ [(⟨x1, hs, x2, x3, x4, x5, x6, x7, qs⟩, .slice (some ⟨q, 0, none⟩) n' n')], by go_num, by omega, hRR, ?_, hPP, hOO, hBB⟩
        · show _ = _
          rw [List.map_append, HM.out, M.take_snocX HFK.out]
          rfl
      case measure => simp [intOf]; omega
    · have hlk : k = len := by omega
      subst hlk
      have HM2 : Hid (ps.map Prod.fst = ds) := by have := HM.out; rwa [List.take_of_length_le (by have := HN.out; omega)] at this
      go_wp2
      go_ret
      refine ⟨w.heap.size, ps, rfl, HM2.out, ⟨?_, fun g hg => ?_, fun p hp => ⟨(HOr.out.1 p hp).1.down (by omega), (HOr.out.1 p hp).2⟩, HOr.out.2⟩, HBr.out⟩
      · have := M.drow_of (cap := k) (lo := w.heap.size) HPr.out HRr.out (Nat.le_refl _) (by rw [HPL.out]; exact Nat.le_refl _) (by unfold maxLen; omega)
        rwa [HPL.out] at this ⊢
      · have := Option.some.inj hg
        rw [← this]
        exact HRr.out.lt
end Go.Proofs.Ytpokcbcffijheab
