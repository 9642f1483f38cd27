/-
  What numsBytes and DumpBytes of the program do.
-/
import Derived.Test.YtpokcbcffijheaaPart8
import Derived.Test.YtpokcbcffijheaaNumWalks
import Derived.Test.YtpokcbcffijheaaTextWalks
import Derived.Test.YtpokcbcffijheaaIDumpR
import Derived.Test.YtpokcbcffijheaaDumpSW
import Derived.Test.YtpokcbcffijheaaWide
namespace Go.Proofs.Ytpokcbcffijheaa
open Go.RowKit

set_option maxRecDepth 100000 in
set_option maxHeartbeats 1600000 in
theorem iNumsB_any (w : World) (b n : Nat) (zs : List Int) (hn : n = zs.length) (h : ∀ i (h : i < zs.length), w.cell? ⟨b, i, none⟩ = some (.int .i64 zs[i])) (hok : ∀ z ∈ zs, M.i64r z) (hl : n ≤ 1000) :
    Calls Try.prog 36 #[.slice (some ⟨b, 0, none⟩) n n] w fun e w' => e = .returned (.string (M.nums zs)) ∧ Below w.heap.size w w' := by
  obtain ⟨i0, hi, hz0, hz1, hz2⟩ := info_parts Try.infoB
  have HC : Hid (∀ i (h : i < zs.length), w.cell? ⟨b, i, none⟩ = some (.int .i64 zs[i])) := h
  have HN := M.hl hn
  have HOK := M.hl hok
  clear h hn hok
  go_enter Try.func36, Try.ntmps36
  go_wp2
  go_loopw [3, 8] (fun v i wr => ∃ (k : Nat) (L : List UInt8), i = .int .i64 k ∧ k ≤ n ∧ L.length ≤ 11 * k ∧ Hid (L = M.numsL (zs.take k)) ∧ Hid (M.OwnB wr w.heap.size v L) ∧ Hid (Below w.heap.size w wr)) (fun _ i _ => n - (intOf i).toNat)
  case atStart => exact ⟨0, [], rfl, Nat.zero_le _, Nat.zero_le _, rfl, ⟨rfl, .inl ⟨rfl, rfl⟩⟩, Below.refl _ _⟩
  case round =>
    obtain ⟨k, L, rfl, hk, hLl, HL, HO, HBr⟩ := hrel
    by_cases hlt : k < n
    · have hkl : k < zs.length := by have := HN.out; omega
      have c0 := HC.out k hkl
      have hfk := List.getElem?_eq_getElem hkl
      generalize zs[k]'hkl = z at c0 hfk
      have HFK := M.hl hfk
      have c1 := (HBr.out.cell (p := ⟨b, k, none⟩) (World.block_lt_of_cell? w _ c0)).trans c0
      have hz := HOK.out z (List.mem_of_getElem? hfk)
      have CP : Hid (Calls Try.prog 34 #[.int .i64 z] wr fun e w' => e = .returned (.string (M.num z)) ∧ Below wr.heap.size wr w') := iPutNum_any z wr hz.1 hz.2
      have hp9 := M.num_size z
      have HP := M.hl (M.num_toList z)
      generalize M.num z = p at CP hp9 HP
      obtain ⟨va, vc, hve⟩ := HO.out.len
      subst hve
      clear hfk hkl c0 hz
      go_wp2_with fail
      refine CP.out.mono ?_
      rintro e w2 ⟨rfl, hb2⟩
      have HO2 := HO.out.below hb2
      have HB2 : Below w.heap.size w w2 := M.sl HBr.out hb2
      have hsz2 := HB2.size
      clear hb2 c1
      go_wp2_with (at_builtin; refine Lib.wpList_append_own_string _ rfl (.tmp 12) (.tmp 14) 22 9 rfl w.heap.size 5 i0 Try.underlying22 Try.underlying9 hi hz0 hz1 hz2 _ _ _ rfl HO2 p rfl ?c1 ?c2 ?c3 ?_)
      case c1 => unfold maxLen; omega
      case c2 => omega
      case c3 => exact hsz2
      intro v' w3 hown' hgrow _
      have HO3 : Hid (M.OwnB w3 w.heap.size v' (L ++ p.data.toList)) := M.OwnB.more hown'
      have HB3 : Hid (Below w.heap.size w w3) := HB2.grown hgrow hsz2 (fun k hk => (World.ownsRow.lt HO2 k hk).1)
      have HL2 : Hid (L ++ p.data.toList = M.numsL (zs.take (k + 1))) := by show _ = _; rw [List.take_add_one, HFK.out, HL.out, HP.out]; exact (M.numsL_snoc _ _).symm
      have hl2 : (L ++ p.data.toList).length ≤ 11 * (k + 1) := by rw [List.length_append, ← Lib.size_eq]; omega
      clear hgrow hown' HO2 HB2 hsz2
      go_wp2
      go_roundw
      case rel => exact ⟨k + 1, L ++ p.data.toList, by go_num, by omega, hl2, HL2, HO3, HB3⟩
      case measure => simp [intOf]; omega
    · have HE : Hid ((⟨L.toArray⟩ : ByteArray) = M.nums zs) := by show _ = _; rw [HL.out, List.take_of_length_le (by have := HN.out; omega)]; rfl
      have hcv := HO.out.conv (Below.refl _ _)
      obtain ⟨va, vc, hve⟩ := HO.out.len
      subst hve
      go_wp2
      go_ret
      exact ⟨by rw [← HE.out]; rfl, HBr.out⟩
theorem M.built (w : World) (T : TypeId) (zs : List Int) : ∀ i (h : i < zs.length), (w.alloc (.cells (zs.map (Value.int .i64)).toArray T)).cell? ⟨w.heap.size, i, none⟩ = some (.int .i64 zs[i]) := by
  intro i h
  rw [World.cell?_alloc_mark]
  simp [h]

set_option maxRecDepth 100000 in
set_option maxHeartbeats 3200000 in
theorem iDumpB_any (w : World) (x1 : Int) (hs : ByteArray) (x2 x3 x4 x5 x6 x7 : Int) (a : Option Addr) (n c : Nat) (ps : List M.PartD) (h : M.Pts w a n c ps) (hz : hs.size ≤ maxLen) :
    Calls Try.prog 9 #[.agg #[.int .i64 x1, .string hs, .int .i64 x2, .int .i64 x3, .int .i64 x4, .int .i64 x5, .int .i64 x6, .int .i64 x7, .slice a n c]] w fun e w' => e = .returned (.string (M.dumpT ⟨x1, hs, x2, x3, x4, x5, x6, x7, ps⟩)) ∧ Below w.heap.size w w' := by
  have hlm := h.max
  have HF := M.hl h
  have HN : Hid (n = ps.length) := h.1
  have HB : Hid (∀ o, Below w.heap.size w (w.alloc o)) := fun o => (Below.refl _ _).alloc (Nat.le_refl _) _
  have CR : Hid (∀ o, Calls Try.prog 11 #[.agg #[.int .i64 x1, .string hs, .int .i64 x2, .int .i64 x3, .int .i64 x4, .int .i64 x5, .int .i64 x6, .int .i64 x7, .slice a n c]] (w.alloc o) fun e w' => e = .returned (.bool (M.dumpR ⟨x1, hs, x2, x3, x4, x5, x6, x7, ps⟩)) ∧ Below (w.alloc o).heap.size (w.alloc o) w') := fun o => iDumpR_any _ x1 hs x2 x3 x4 x5 x6 x7 a n c ps (h.below (HB.out o)) hz
  clear h
  cases hr : M.dumpR ⟨x1, hs, x2, x3, x4, x5, x6, x7, ps⟩
  · have HE : Hid (M.dumpT ⟨x1, hs, x2, x3, x4, x5, x6, x7, ps⟩ = ⟨#[]⟩) := by show _ = _; unfold M.dumpT; rw [hr]; rfl
    rw [hr] at CR
    rw [HE.out]
    clear HE hr
    go_enter Try.func9, Try.ntmps9
    go_wp2_with fail
    refine (CR.out _).mono ?_
    rintro e w1 ⟨rfl, hb⟩
    have B1 := M.hl ((HB.out _).trans (hb.mono (HB.out _).size))
    clear hb
    go_wp2
    go_ret
    exact ⟨rfl, B1.out⟩
  have HE : Hid (M.dumpT ⟨x1, hs, x2, x3, x4, x5, x6, x7, ps⟩ = ⟨(M.dumpL ⟨x1, hs, x2, x3, x4, x5, x6, x7, ps⟩).toArray⟩) := by show _ = _; unfold M.dumpT; rw [hr]; rfl
  obtain ⟨n1, n2, n3, n4, n5, n6, n7⟩ := M.dumpR_nums hr
  obtain ⟨hp8, hpr⟩ := M.dumpR_parts hr
  have hh20 := M.nameR_len (M.dumpR_host hr)
  simp only at n1 n2 n3 n4 n5 n6 n7 hp8 hpr hh20
  have HPR := M.hl hpr
  have hn8 : n ≤ 8 := by have := HN.out; omega
  rw [hr] at CR
  have CP1 : Hid (∀ W, Calls Try.prog 34 #[.int .i64 x1] W fun e w' => e = .returned (.string (M.num x1)) ∧ Below W.heap.size W w') := fun W => iPutNum_any x1 W (by omega) (by omega)
  have CP2 : Hid (∀ W, Calls Try.prog 35 #[.string hs] W fun e w' => e = .returned (.string (M.putText hs)) ∧ Below W.heap.size W w') := fun W => iPutText_any hs W hz
  have CN7 : Hid (∀ w1 : World, Calls Try.prog 36 #[.slice (some ⟨w1.heap.size, 0, none⟩) 7 7] (w1.alloc (.cells #[.int .i64 x2, .int .i64 x3, .int .i64 x4, .int .i64 x5, .int .i64 x6, .int .i64 x7, .int .i64 (n : Int)] 2)) fun e w' => e = .returned (.string (M.nums [x2, x3, x4, x5, x6, x7, (n : Int)])) ∧ Below w1.heap.size w1 w') := fun w1 =>
    (iNumsB_any _ w1.heap.size 7 [x2, x3, x4, x5, x6, x7, (n : Int)] rfl (M.built w1 _ _) (by intro z hz; simp at hz; unfold M.i64r; omega) (by omega)).mono (by rintro e w' ⟨he, hb⟩; exact ⟨he, M.bxd_below hb⟩)
  have hz1 := M.num_size x1
  have hz2 := M.putText_size2 hs
  have hz3 := M.nums_size [x2, x3, x4, x5, x6, x7, (n : Int)]
  simp only [List.length_cons, List.length_nil] at hz3
  have HHD : Hid (((M.num x1 ++ M.putText hs) ++ M.nums [x2, x3, x4, x5, x6, x7, (n : Int)]).data.toList = M.dheadL ⟨x1, hs, x2, x3, x4, x5, x6, x7, ps⟩) := by
    show _ = _
    rw [M.app_toList, M.app_toList, M.num_toList, M.nums_toList]
    unfold M.dheadL
    rw [HN.out]
  clear hr n1 n2 n3 n4 n5 n6 n7 hp8 hpr
  generalize M.num x1 = p1 at CP1 hz1 HHD
  generalize M.putText hs = p2 at CP2 hz2 HHD
  generalize M.nums [x2, x3, x4, x5, x6, x7, (n : Int)] = p3 at CN7 hz3 HHD
  have had1 := fun W => run_string_add_sum (P := Try.prog) (w := W) p1 p2 (by omega)
  have h12 : (p1 ++ p2).size = p1.size + p2.size := ByteArray.size_append
  generalize hq : p1 ++ p2 = p12 at had1 h12 HHD
  have had2 := fun W => run_string_add_sum (P := Try.prog) (w := W) p12 p3 (by omega)
  have h123 : (p12 ++ p3).size = p12.size + p3.size := ByteArray.size_append
  generalize hq2 : p12 ++ p3 = p123 at had2 h123 HHD
  have hp123 : p123.size ≤ 119 := by omega
  clear hq hq2 h12 h123
  go_enter Try.func9, Try.ntmps9
  go_wp2_with fail
  refine (CR.out _).mono ?_
  rintro e w1 ⟨rfl, hb⟩
  have B1 := M.hl hb
  have V1 := M.hl ((hb.block w.heap.size (by simp)).trans (heap_alloc_new _ _))
  clear hb CR
  obtain ⟨c0, c1, c2, c3, c4, c5, c6, c7, c8⟩ := M.bk9 V1.out
  have q0 : ∀ x : M.Wd w1, x.val.cell? ⟨w.heap.size, 0, none⟩ = some (.int .i64 x1) := M.Wd.cell c0
  have q1 : ∀ x : M.Wd w1, x.val.cell? ⟨w.heap.size, 1, none⟩ = some (.string hs) := M.Wd.cell c1
  clear c0 c1 c2 c3 c4 c5 c6 c7 c8
  go_wp2_with fail
  refine M.wp_region_wd (by kernel_rfl) (by kernel_rfl) (fun _ => ?_)
  repeat (first | go_big_quiet_skip | (go_big_quiet_want; go_big_quiet_op; first | go_big_quiet_on | (apply Exists.intro; refine ⟨fun x => ?_, ?_⟩; (first | exact M.Wd.call x (CP1.out x.val) | exact M.Wd.call x (CP2.out x.val)); go_big_quiet_on)))
  refine wpQuiet_nil ?_
  intro w2 hw'
  have hb2 : Below w1.heap.size w1 w2 := by obtain ⟨x, rfl⟩ := hw'; exact x.bel
  have V2 := M.hl (M.keepO V1.out hb2)
  have B2 := M.hl (M.sl B1.out hb2)
  clear hw' hb2 q0 q1 CP1 CP2
  obtain ⟨c0, c1, c2, c3, c4, c5, c6, c7, c8⟩ := M.bk9 V2.out
  go_wp2_with fail
  refine (CN7.out _).mono ?_
  rintro e w3 ⟨rfl, hb⟩
  have V3 := M.hl (M.keepO V2.out hb)
  have B3 := M.hl (M.sl B2.out hb)
  clear hb CN7 c0 c1 c2 c3 c4 c5 c6 c7 c8
  have c8 := M.bk_cell V3.out 8 _ rfl
  go_wp2
  go_loopw [3, 38] (fun v i wr => ∃ (k : Nat) (t : ByteArray), i = .int .i64 k ∧ v = .string t ∧ k ≤ n ∧ t.size ≤ 119 + 44 * k ∧ Hid (t.data.toList = M.dheadL ⟨x1, hs, x2, x3, x4, x5, x6, x7, ps⟩ ++ (ps.take k).flatMap M.partL) ∧ Hid (Below w.heap.size w wr)) (fun _ i _ => n - (intOf i).toNat)
  case atStart => exact ⟨0, p123, rfl, rfl, Nat.zero_le _, by omega, (show _ = _ by rw [HHD.out]; simp), M.bxd_below B3.out⟩
  case round =>
    obtain ⟨k, t, rfl, rfl, hk, htk, HT, HBr⟩ := hrel
    by_cases hlt : k < n
    · obtain ⟨hfl, _, _, hfa⟩ := HF.out.below HBr.out
      obtain ⟨b, off, hae, hat⟩ := hfa (by omega)
      obtain ⟨d0, d1, d2, d3⟩ := hat k (by omega)
      have hfk := List.getElem?_eq_getElem (l := ps) (i := k) (by omega)
      generalize ps[k]'(by omega) = f at d0 d1 d2 d3 hfk
      have HFK := M.hl hfk
      subst hae
      have hf := M.partR_iff.1 (HPR.out f (List.mem_of_getElem? hfk))
      have CN4 : Hid (∀ (w1 : World) (o : Obj) (B : Nat), (w1.alloc o).heap.size = B → Calls Try.prog 36 #[.slice (some ⟨B, 0, none⟩) 4 4] ((w1.alloc o).alloc (.cells #[.int .i64 f.q, .int .i64 f.l, .int .i64 f.s, .int .i64 f.c] 2)) fun e w' => e = .returned (.string (M.nums [f.q, f.l, f.s, f.c])) ∧ Below w1.heap.size w1 w') := fun w1 o B hB => by
        subst hB
        exact (iNumsB_any _ (w1.alloc o).heap.size 4 [f.q, f.l, f.s, f.c] rfl (M.built _ _ _) (by intro z hz; simp at hz; unfold M.i64r; omega) (by omega)).mono (by rintro e w' ⟨he, hb⟩; exact ⟨he, M.bxd_below (M.bxd_below hb |> fun h => h)⟩)
      have hx9 := M.nums_size [f.q, f.l, f.s, f.c]
      simp only [List.length_cons, List.length_nil] at hx9
      have HX := M.hl (M.nums_toList [f.q, f.l, f.s, f.c])
      generalize M.nums [f.q, f.l, f.s, f.c] = x at CN4 hx9 HX
      have had := fun W => run_string_add_sum (P := Try.prog) (w := W) t x (by omega)
      have HT2 : Hid ((t ++ x).data.toList = M.dheadL ⟨x1, hs, x2, x3, x4, x5, x6, x7, ps⟩ ++ (ps.take (k + 1)).flatMap M.partL) := by
        show _ = _
        rw [M.app_toList, HT.out, HX.out, List.take_add_one, HFK.out]
        simp [M.partL]
      have hl2 : (t ++ x).size ≤ 119 + 44 * (k + 1) := by rw [ByteArray.size_append]; omega
      clear hfk hat hfa hfl hf
      go_wp2_with fail
      refine (CN4.out _ _ _ (by simp)).mono ?_
      rintro e w5 ⟨rfl, hb5⟩
      have B5 := M.hl (M.sl HBr.out hb5)
      clear hb5 CN4 d0 d1 d2 d3
      go_wp2
      go_roundw
      case rel => exact ⟨k + 1, t ++ x, by go_num, rfl, by omega, hl2, HT2, B5⟩
      case measure => simp [intOf]; omega
    · have HX : Hid ((⟨(M.dumpL ⟨x1, hs, x2, x3, x4, x5, x6, x7, ps⟩).toArray⟩ : ByteArray) = t) := by
        refine M.ba_ext ?_
        rw [HT.out, List.take_of_length_le (by have := HN.out; omega)]
        simp [M.dumpL]
      go_wp2
      go_ret
      exact ⟨by rw [HE.out, HX.out]; rfl, HBr.out⟩
end Go.Proofs.Ytpokcbcffijheaa
