/-
  What MarksOf of the program and of the specification do.
-/
import Derived.Test.YtpokcbcffijheabOwnDump
import Derived.Test.YtpokcbcffijheabOwnMarks
import Derived.Test.YtpokcbcffijheabStepLaws
import Derived.Laws.AppendOwn
namespace Go.Proofs.Ytpokcbcffijheab
open Go.RowKit

theorem M.three_k (w : World) (H : Nat) (hH : H = w.heap.size) (m : M.MkD) (T : TypeId) : ∀ j u, (M.mcells m)[j]? = some u → (w.alloc (.cells #[.int .i64 m.id, .int .i64 m.level, .int .i64 m.base] T)).cell? ((⟨H, 0, none⟩ : Addr).add j) = some u := by
  subst hH
  intro j u hu
  rw [Addr.add_lit, Nat.zero_add, World.cell?_alloc_mark]
  simpa [M.mcells] using hu
def M.markD (d : M.DumpD) : M.MkD := ⟨d.id, d.lev, d.base⟩
/-- The marks of a host's dumps. -/
def M.marksOf (ds : List M.DumpD) (host : ByteArray) : List M.MkD := (ds.filter fun d => d.host.toList == host.toList).map M.markD
theorem M.marksOf_yes {ds : List M.DumpD} {host : ByteArray} {k : Nat} {d : M.DumpD} (h : ds[k]? = some d) (hq : (d.host.toList == host.toList) = true) : M.marksOf (ds.take (k + 1)) host = M.marksOf (ds.take k) host ++ [M.markD d] := by
  unfold M.marksOf
  rw [M.take_snocX h, List.filter_append, List.map_append]
  simp [hq]
theorem M.marksOf_no {ds : List M.DumpD} {host : ByteArray} {k : Nat} {d : M.DumpD} (h : ds[k]? = some d) (hq : (d.host.toList == host.toList) = false) : M.marksOf (ds.take (k + 1)) host = M.marksOf (ds.take k) host := by
  unfold M.marksOf
  rw [M.take_snocX h, List.filter_append, List.map_append]
  simp [hq]
theorem M.marksOf_len (ds : List M.DumpD) (host : ByteArray) : (M.marksOf ds host).length ≤ ds.length := by
  unfold M.marksOf
  rw [List.length_map]
  exact List.length_filter_le _ _
/-- The marks that MarksOf tells. -/
def M.marksO (ds : List M.DumpD) (host : ByteArray) : List M.MkD := if 400 < ds.length ∨ 20000 < host.size then [] else M.marksOf ds host

set_option maxRecDepth 100000 in
set_option maxHeartbeats 1600000 in
theorem iMarksO_any (w : World) (a : Option Addr) (n c : Nat) (ds : List M.DumpD) (host : ByteArray) (h : M.Dps w a n c ds) (hz : host.size ≤ maxLen) :
    Calls Try.prog 33 #[.slice a n c, .string host] w fun e w' => ∃ v, e = .returned v ∧ M.OwnK w' w.heap.size v (M.marksO ds host) ∧ Below w.heap.size w w' := by
  obtain ⟨i0, hi, hz0, hz1, hz2⟩ := info_parts Try.infoMk
  have hlm := h.max
  have hz5 : host.size ≤ 9223372036854775807 := by unfold maxLen at hz; omega
  have HF := M.hl h
  have HN : Hid (n = ds.length) := h.1
  clear h hz
  by_cases h4 : 400 < n
  · have HE : Hid (M.marksO ds host = []) := by show _ = _; unfold M.marksO; rw [if_pos (.inl (by have := HN.out; omega))]
    have d1 : decide (400 < (n : Int)) = true := decide_eq_true (by omega)
    rw [HE.out]
    clear HE
    go_enter Try.func33, Try.ntmps33
    go_wp2
    go_ret
    exact ⟨_, rfl, ⟨rfl, .inl ⟨rfl, rfl⟩⟩, Below.refl _ _⟩
  have d1 : decide (400 < (n : Int)) = false := decide_eq_false (by omega)
  by_cases h5 : 20000 < host.size
  · have HE : Hid (M.marksO ds host = []) := by show _ = _; unfold M.marksO; rw [if_pos (.inr h5)]
    have d2 : decide (20000 < (host.size : Int)) = true := decide_eq_true (by omega)
    rw [HE.out]
    clear HE
    go_enter Try.func33, Try.ntmps33
    go_wp2
    go_ret
    exact ⟨_, rfl, ⟨rfl, .inl ⟨rfl, rfl⟩⟩, Below.refl _ _⟩
  have d2 : decide (20000 < (host.size : Int)) = false := decide_eq_false (by omega)
  have HE : Hid (M.marksO ds host = M.marksOf ds host) := by show _ = _; unfold M.marksO; rw [if_neg (by have := HN.out; omega)]
  go_enter Try.func33, Try.ntmps33
  go_wp2
  go_loopw [5, 18] (fun v i wr => ∃ (k : Nat) (ms : List M.MkD) (va : Option Addr) (vc : Nat), i = .int .i64 k ∧ v = .slice va ms.length vc ∧ k ≤ n ∧ ms.length ≤ k ∧ Hid (ms = M.marksOf (ds.take k) host) ∧ Hid (M.OwnK wr w.heap.size (.slice va ms.length vc) ms) ∧ Hid (Below w.heap.size w wr)) (fun _ i _ => n - (intOf i).toNat)
  case atStart => exact ⟨0, [], none, 0, rfl, rfl, Nat.zero_le _, Nat.zero_le _, rfl, ⟨rfl, .inl ⟨rfl, rfl⟩⟩, Below.refl _ _⟩
  case round =>
    obtain ⟨k, ms, va, vc, rfl, rfl, hk, hml, HM, HO, HBr⟩ := hrel
    by_cases hlt : k < n
    · obtain ⟨b, off, d, rfl, hfk, hat⟩ := (HF.out.below HBr.out).at hlt
      have HFK := M.hl hfk
      obtain ⟨x1, hs, x2, x3, x4, x5, x6, x7, ps⟩ := d
      obtain ⟨⟨c0, c1, c2, c3, c4, c5, c6, c7⟩, a1, n1, k1, c8, -⟩ := hat
      simp only at c0 c1 c2 c3 c4 c5 c6 c7 c8
      have BA : Hid (∀ o, Below w.heap.size w (wr.alloc o)) := fun o => HBr.out.alloc HBr.out.size _
      cases hq : (hs.toList == host.toList)
      · have HX : Hid (ms = M.marksOf (ds.take (k + 1)) host) := by show _ = _; rw [HM.out]; exact (M.marksOf_no HFK.out hq).symm
        have HO2 : Hid (∀ o, M.OwnK (wr.alloc o) w.heap.size (.slice va ms.length vc) ms) := fun o => HO.out.below ((Below.refl _ _).alloc (Nat.le_refl _) _)
        clear hfk
        go_wp2
        go_roundw
        case rel => exact ⟨k + 1, ms, va, vc, by go_num, rfl, by omega, by omega, HX, HO2.out _, BA.out _⟩
        case measure => simp [intOf]; omega
      · have HX : Hid (ms ++ [⟨x1, x3, x4⟩] = M.marksOf (ds.take (k + 1)) host) := by show _ = _; rw [HM.out]; exact (M.marksOf_yes HFK.out hq).symm
        have hown := HO.out.below (((Below.refl wr.heap.size wr).alloc (Nat.le_refl _) (.cells #[.int .i64 x1, .string hs, .int .i64 x2, .int .i64 x3, .int .i64 x4, .int .i64 x5, .int .i64 x6, .int .i64 x7, .slice a1 n1 k1] 36)).alloc (by simp) (.cells #[.int .i64 x1, .int .i64 x3, .int .i64 x4] 78))
        unfold M.OwnK at hown
        have hsz := HBr.out.size
        clear hfk
        go_wp2_with (at_builtin; refine wpList_append_own _ rfl (.tmp 26) (.tmp 34) 50 rfl w.heap.size 78 i0 (.agg #[.int .i64 0, .int .i64 0, .int .i64 0]) 3 24 Try.underlying50 hi hz0 hz1 hz2 rfl (by decide) _ _ _ rfl hown ⟨wr.heap.size + 1, 0, none⟩ 1 1 (M.mcells ⟨x1, x3, x4⟩) rfl rfl (M.three_k _ _ (by simp) ⟨x1, x3, x4⟩ _) ?c2 ?c3 ?c4 ?c5 ?_)
        case c2 => exact fun u hu => M.oneCellM [⟨x1, x3, x4⟩] u (by simpa [M.cellsM] using hu)
        case c3 => unfold maxLen; omega
        case c4 => omega
        case c5 => simp; omega
        intro v' w6 hown' hgrow _
        have HO6 : Hid (M.OwnK w6 w.heap.size v' (ms ++ [⟨x1, x3, x4⟩])) := M.OwnK.more hown'
        have HB6 : Hid (Below w.heap.size w w6) := ((BA.out (.cells #[.int .i64 x1, .string hs, .int .i64 x2, .int .i64 x3, .int .i64 x4, .int .i64 x5, .int .i64 x6, .int .i64 x7, .slice a1 n1 k1] 36)).alloc (BA.out _).size (.cells #[.int .i64 x1, .int .i64 x3, .int .i64 x4] 78)).grown hgrow (by simp; omega) (fun j hj => (World.ownsRow.lt hown j hj).1)
        have hl6 : (ms ++ [(⟨x1, x3, x4⟩ : M.MkD)]).length = ms.length + 1 := by rw [List.length_append]; rfl
        obtain ⟨va2, vc2, hv2, -⟩ := HO6.out.mks
        subst hv2
        clear hown hown' hgrow c0 c1 c2 c3 c4 c5 c6 c7 c8
        go_wp2
        go_roundw
        case rel => exact ⟨k + 1, ms ++ [⟨x1, x3, x4⟩], va2, vc2, by go_num, by rw [hl6], by omega, by rw [hl6]; omega, HX, HO6, HB6⟩
        case measure => simp [intOf]; omega
    · go_wp2
      go_ret
      exact ⟨_, rfl, by rw [HE.out]; have h1 := HO.out; have h2 := HM.out; rw [List.take_of_length_le (by have := HN.out; omega)] at h2; rw [← h2]; exact h1, HBr.out⟩

set_option maxRecDepth 100000 in
set_option maxHeartbeats 3200000 in
theorem sMarks8_any (w : World) (a : Option Addr) (n c : Nat) (ds : List M.DumpD) (host : ByteArray) (h : M.Dps w a n c ds) (hn400 : n ≤ 400) :
    Calls Try.prog 26 #[.slice a n c, .string host] w fun e w' => ∃ v, e = .returned v ∧ M.OwnK w' w.heap.size v (M.marksOf ds host) ∧ Below w.heap.size w w' := by
  obtain ⟨i0, hi, hz0, hz1, hz2⟩ := info_parts Try.infoMk
  have hlm := h.max
  have HF := M.hl h
  have HN : Hid (n = ds.length) := h.1
  have HEMP : Hid (M.OwnK (w.alloc (.cells #[] 78)) w.heap.size (.slice (some ⟨w.heap.size, 0, none⟩) 0 0) []) := M.OwnK.empty w w (Nat.le_refl _)
  have HBE : Hid (Below w.heap.size w (w.alloc (.cells #[] 78))) := (Below.refl _ _).alloc (Nat.le_refl _) _
  clear h
  go_enter Try.func26, Try.ntmps26
  go_wp2
  go_loopw [5, 6] (fun v i wr => ∃ (k : Nat) (ms : List M.MkD) (va : Option Addr) (vc : Nat), i = .int .i64 k ∧ v = .slice va ms.length vc ∧ k ≤ n ∧ ms.length ≤ k ∧ Hid (ms = M.marksOf (ds.take k) host) ∧ Hid (M.OwnK wr w.heap.size (.slice va ms.length vc) ms) ∧ Hid (Below w.heap.size w wr)) (fun _ i _ => n - (intOf i).toNat)
  case atStart => exact ⟨0, [], _, _, rfl, rfl, Nat.zero_le _, Nat.zero_le _, rfl, HEMP, HBE⟩
  case round =>
    obtain ⟨k, ms, va, vc, rfl, rfl, hk, hml, HM, HO, HBr⟩ := hrel
    by_cases hlt : k < n
    · obtain ⟨b, off, d, rfl, hfk, hat⟩ := (HF.out.below HBr.out).at hlt
      have HFK := M.hl hfk
      obtain ⟨x1, hs, x2, x3, x4, x5, x6, x7, ps⟩ := d
      obtain ⟨⟨c0, c1, c2, c3, c4, c5, c6, c7⟩, a1, n1, k1, c8, -⟩ := hat
      simp only at c0 c1 c2 c3 c4 c5 c6 c7 c8
      cases hq : (hs.toList == host.toList)
      · have HX : Hid (ms = M.marksOf (ds.take (k + 1)) host) := by show _ = _; rw [HM.out]; exact (M.marksOf_no HFK.out hq).symm
        clear hfk
        go_wp2
        go_roundw
        case rel => exact ⟨k + 1, ms, va, vc, by go_num, rfl, by omega, by omega, HX, HO, HBr⟩
        case measure => simp [intOf]; omega
      · have HX : Hid (ms ++ [⟨x1, x3, x4⟩] = M.marksOf (ds.take (k + 1)) host) := by show _ = _; rw [HM.out]; exact (M.marksOf_yes HFK.out hq).symm
        have BD : Hid (Below wr.heap.size wr (wr.drew.alloc (.cells #[.int .i64 x1, .int .i64 x3, .int .i64 x4] 78))) := (Below.refl wr.heap.size wr).drew.alloc (Nat.le_refl _) _
        have hown := HO.out.below BD.out
        unfold M.OwnK at hown
        have hsz := HBr.out.size
        have HLV : Hid (∀ j, (Value.slice va ms.length vc).ownBlock = some j → w.heap.size ≤ j) := fun j hj => (World.ownsRow.lt hown j hj).1
        have HW2 := M.hl hown
        clear hfk
        go_wp2_with fail
        go_region_law (refine M.stepApp rfl (.tmp 21) (.tmp 38) 50 rfl w.heap.size 78 i0 (.agg #[.int .i64 0, .int .i64 0, .int .i64 0]) 3 24 Try.underlying50 hi hz0 hz1 hz2 rfl (by decide) (.slice va ms.length vc) ms.length (M.cellsM ms) (by simp [Act.eval]) HW2.out ⟨wr.heap.size, 0, none⟩ 1 1 (M.mcells ⟨x1, x3, x4⟩) (by simp [Act.eval]) rfl (M.three_k _ _ (by simp) ⟨x1, x3, x4⟩ _) (fun u hu => M.oneCellM [⟨x1, x3, x4⟩] u (by simpa [M.cellsM] using hu)) (by unfold maxLen; omega) (by omega) (by simp; omega) ?_; intro v' w6 hown' hgrow)
        all_goals
          have HO6 : Hid (M.OwnK w6 w.heap.size v' (ms ++ [⟨x1, x3, x4⟩])) := M.OwnK.more hown'
          have HB6 : Hid (Below w.heap.size w w6) := (HBr.out.trans (BD.out.mono HBr.out.size)).grown hgrow (by simp; omega) (fun j hj => HLV.out j hj)
          have hl6 : (ms ++ [(⟨x1, x3, x4⟩ : M.MkD)]).length = ms.length + 1 := by rw [List.length_append]; rfl
          obtain ⟨va2, vc2, hv2, -⟩ := HO6.out.mks
          subst hv2
          clear hown hown' hgrow c0 c1 c2 c3 c4 c5 c6 c7 c8
          go_wp2
          go_roundw
          case rel => exact ⟨k + 1, ms ++ [⟨x1, x3, x4⟩], va2, vc2, by go_num, by rw [hl6], by omega, by rw [hl6]; omega, HX, HO6, HB6⟩
          case measure => simp [intOf]; omega
    · go_wp2
      go_ret
      exact ⟨_, rfl, by have h1 := HO.out; have h2 := HM.out; rw [List.take_of_length_le (by have := HN.out; omega)] at h2; rw [← h2]; exact h1, HBr.out⟩

end Go.Proofs.Ytpokcbcffijheab
