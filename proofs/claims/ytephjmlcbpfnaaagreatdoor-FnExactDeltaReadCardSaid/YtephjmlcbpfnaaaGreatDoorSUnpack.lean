/-
  What Unpack of the specification does.
-/
import Derived.Test.YtephjmlcbpfnaaaGreatDoorPart7
import Derived.Test.YtephjmlcbpfnaaaGreatDoorPart10
import Derived.Test.YtephjmlcbpfnaaaGreatDoorPart11
namespace Go.Proofs.YtephjmlcbpfnaaaGreatDoor
open Go.RowKit

theorem M.hidq {p : Prop} (h : p) : Hid p := h
theorem M.octR_bd (s : ByteArray) : -9223372036854775808 ≤ M.octR s ∧ M.octR s ≤ 9223372036854775807 := by
  unfold M.octR
  split
  · next h =>
    have h1 := M.octV_lt s.data.toList (fun c hc => List.all_eq_true.1 h.2.2 c hc)
    have h2 : 8 ^ s.data.toList.length ≤ 8 ^ 20 := M.pow8_le (by rw [← Lib.size_eq]; omega)
    omega
  · omega
theorem M.octR_le11 {s : ByteArray} (h : s.size ≤ 11) : M.octR s ≤ 8589934591 := by
  unfold M.octR
  split
  · next hh =>
    have h1 := M.octV_lt s.data.toList (fun c hc => List.all_eq_true.1 hh.2.2 c hc)
    have h2 : 8 ^ s.data.toList.length ≤ 8 ^ 11 := M.pow8_le (by rw [← Lib.size_eq]; exact h)
    omega
  · omega
theorem M.recS_len (l : List UInt8) : (M.recS l).length ≤ l.length := by
  unfold M.recS
  split
  · rw [List.length_dropLast, List.length_drop]; omega
  · exact Nat.zero_le _
theorem M.strip_len (l : List UInt8) : (M.stripL l).length ≤ l.length := by
  unfold M.stripL
  split
  · rw [List.length_dropLast]; omega
  · exact Nat.le_refl _
theorem M.fok_fileL {h data path : List UInt8} (hd : data.length ≤ 1000000) (hp : path.length ≤ 1000000) : M.fok (M.fileL h data path) := by
  have hn : (if path = [] then M.textL (M.cutL h 0 100) else path).length ≤ 1000000 := by
    split
    · refine Nat.le_trans (List.takeWhile_prefix _).length_le ?_
      unfold M.cutL
      rw [List.length_take]; omega
    · exact hp
  refine ⟨?_, ?_, (M.octR_bd _).1, (M.octR_bd _).2, (M.octR_bd _).1, (M.octR_bd _).2⟩
  · show (M.ba _).size ≤ maxLen
    rw [M.ba_size]
    unfold maxLen
    split
    · have := M.strip_len (if path = [] then M.textL (M.cutL h 0 100) else path); omega
    · omega
  · show (M.ba _).size ≤ maxLen
    rw [M.ba_size]; unfold maxLen; omega
/-- What Unpack answers: a list of files, a place, a code. -/
def M.PaxIs (w' : World) (e : Ending) (r : Int × Nat × List M.FileD) : Prop :=
  ∃ av cap, e = .returned (.agg #[.slice av r.2.2.length cap, .int .i64 (r.2.1 : Int), .int .i64 r.1]) ∧ M.Files w' av r.2.2.length cap r.2.2
theorem M.files_nil (w : World) : M.Files w none 0 0 [] := ⟨rfl, Nat.le_refl _, Nat.zero_le _, fun h => absurd h (Nat.lt_irrefl _)⟩
theorem M.paxIll (w : World) (c : Int) (a : Nat) : M.PaxIs w (.returned (.agg #[.slice none 0 0, .int .i64 (a : Int), .int .i64 c])) (c, a, []) := ⟨none, 0, rfl, M.files_nil w⟩

set_option maxRecDepth 100000 in
set_option maxHeartbeats 400000 in
theorem sUnpack_long (t : ByteArray) (w : World) (hs : t.size ≤ maxLen) (h : 20000 < t.size) :
    Calls Tryz.prog 79 #[.string t] w fun e w' => e = .returned (.agg #[.slice none 0 0, .int .i64 0, .int .i64 2]) ∧ Below w.heap.size w w' := by
  unfold maxLen at hs
  go_enter Tryz.func79, Tryz.ntmps79
  go_wp2
  exact bodyPost_ret (v := .agg #[.slice none 0 0, .int .i64 0, .int .i64 2]) (by simp [results, Tryz.results79, go_sem]) rfl ⟨rfl, (Below.refl _ _).alloc (Nat.le_refl _) _⟩

set_option maxRecDepth 100000 in
set_option maxHeartbeats 800000 in
theorem sUnpack_any (t : ByteArray) (w : World) (hs : t.size ≤ 20000) :
    Calls Tryz.prog 79 #[.string t] w fun e w' => M.PaxIs w' e (M.outL M.recS t.data.toList) ∧ Below w.heap.size w w' := by
  have htl : t.data.toList.length = t.size := by rw [← Lib.size_eq]
  have HTL : Hid (t.data.toList.length = t.size) := htl
  obtain ⟨R, hR⟩ : ∃ R, R = M.readL M.recS t.data.toList (M.fuelL t.data.toList) 0 ⟨[], []⟩ := ⟨_, rfl⟩
  have HOI : Hid (∀ c a, R = M.Rd.ill c a → M.outL M.recS t.data.toList = (c, a, [])) := fun c a h => by unfold M.outL; rw [← hR, h]
  have HOF : Hid (∀ fs, R = M.Rd.fin fs → M.outL M.recS t.data.toList = if (M.packB fs).data.toList = t.data.toList then (0, 0, fs) else (3, 0, [])) := fun fs h => by unfold M.outL; rw [← hR, h]
  have HIll : Hid (∀ (c : Int) (a : Nat) W, a ≤ 100000 → Calls Tryz.prog 101 #[.int .i64 c, .int .i64 a] W fun e w' => e = .returned (.agg #[.slice none 0 0, .int .i64 ((a / 512 : Nat) : Int), .int .i64 c]) ∧ Below W.heap.size W w') := fun c a W h => sIll_any c a W h
  have HZ : Hid (∀ W, Calls Tryz.prog 102 #[.int .i64 512] W fun e w' => e = .returned (.string (M.zerosB 512)) ∧ Below W.heap.size W w') := fun W => sZeros_any 512 W (by decide)
  obtain ⟨i0, hi, hz0, hz1, hz2⟩ := info_parts Tryz.infoFn
  have d0 : decide (20000 < (t.size : Int)) = false := decide_eq_false (by omega)
  have HST : Hid (R = M.readL M.recS t.data.toList (M.fuelL t.data.toList) 0 ⟨[], []⟩) := hR
  clear hR htl
  go_enter Tryz.func79, Tryz.ntmps79
  go_wp2
  go_loopw [3, 4, 5] (fun v p i wr => ∃ (a fuel : Nat) (pa : ByteArray) (fs : List M.FileD), i = .int .i64 a ∧ p = .string pa ∧ a ≤ t.size ∧ pa.size ≤ 20000 ∧ fs.length * 512 ≤ a ∧ Hid (M.readL M.recS t.data.toList fuel a ⟨pa.data.toList, fs⟩ = R) ∧ Hid (t.size + 512 ≤ a + fuel * 512) ∧ Hid (∀ f ∈ fs, M.fok f)
    ∧ Hid (M.Own wr (w.heap.size + 1) 54 v fs) ∧ Hid (Below (w.alloc (.cells #[.slice none 0 0, .int .i64 0, .int .i64 0] 70)).heap.size (w.alloc (.cells #[.slice none 0 0, .int .i64 0, .int .i64 0] 70)) wr)) (fun _ _ i _ => t.size + 1 - (intOf i).toNat)
  case atStart =>
    refine ⟨0, M.fuelL t.data.toList, ⟨#[]⟩, [], rfl, rfl, Nat.zero_le _, Nat.zero_le _, by simp, (show M.readL M.recS t.data.toList (M.fuelL t.data.toList) 0 ⟨[], []⟩ = R from HST.out.symm), ?_, (fun f hf => absurd hf List.not_mem_nil), ⟨rfl, .inr ⟨_, 0, #[], rfl, by simp, heap_alloc2_new _ _ _, Nat.le_refl _, by decide, rfl, rfl⟩⟩, (Below.refl _ _).alloc (Nat.le_refl _) _⟩
    show _ ≤ _
    unfold M.fuelL
    rw [HTL.out]
    omega
  case round =>
    obtain ⟨a, fuel, pa, fs, rfl, rfl, ha, hpa, hfl, HRd, HFu, HFk, HOw, HBr⟩ := hrel
    obtain ⟨fu, rfl⟩ : ∃ fu, fuel = fu + 1 := ⟨fuel - 1, by have := HFu.out; omega⟩
    have hrd := HRd.out
    rw [M.readL, HTL.out] at hrd
    clear HRd
    by_cases h1 : t.size < a + 512
    · rw [if_pos h1] at hrd
      have HE : Hid (M.outL M.recS t.data.toList = (4, a / 512, [])) := HOI.out _ _ hrd.symm
      clear hrd
      go_wp2_with fail
      refine (HIll.out 4 a _ (by omega)).mono ?_
      rintro e w1 ⟨rfl, hb⟩
      have hb1 := M.s1' HBr.out hb
      have g0 := M.boxed hb1 0 _ rfl
      have g1 := M.boxed hb1 1 _ rfl
      have g2 := M.boxed hb1 2 _ rfl
      have f0 : ∀ j, w1.frozen? ⟨w.heap.size, j, none⟩ = false := fun j => by rw [hb1.frozen (p := ⟨w.heap.size, j, none⟩) (by simp)]; exact World.frozen?_alloc_new _ _ _ _
      have HB1 : Hid (Below w.heap.size w w1) := M.boxed_below hb1
      clear hb hb1
      go_wp2
      exact bodyPost_ret (v := .agg #[.slice none 0 0, .int .i64 ((a / 512 : Nat) : Int), .int .i64 4]) (by simp [results, Tryz.results79, go_sem, g0, g1, g2]) rfl ⟨by rw [HE.out]; exact M.paxIll _ _ _, ((HB1.out.setCell (Nat.le_refl _) _).setCell (Nat.le_refl _) _).setCell (Nat.le_refl _) _⟩
    rw [if_neg h1] at hrd
    obtain ⟨x, hx⟩ : ∃ x, t.extract a (a + 512) = x := ⟨_, rfl⟩
    have hxs : x.size = 512 := by rw [← hx, ByteArray.size_extract]; omega
    have HXL : Hid (M.cutL t.data.toList a 512 = x.data.toList) := by
      show _ = _
      rw [← hx, M.cut_mk t a (a + 512), show a + 512 - a = 512 by omega]
      rfl
    rw [HXL.out] at hrd
    have HXX : Hid (t.extract a (a + 512) = x) := hx
    have hz : (M.zerosB 512).size = 512 := M.zerosB_size _
    obtain ⟨z, hze⟩ : ∃ z, z = M.zerosB 512 := ⟨_, rfl⟩
    have HZZ : Hid (z = M.zerosB 512) := hze
    rw [← hze] at hz
    have HZt : Hid ((x.toList == z.toList) = decide (x.data.toList = List.replicate 512 0)) := by
      show _ = _
      rw [Bool.eq_iff_iff, beq_iff_eq, decide_eq_true_iff, ByteArray.toList_eq, ByteArray.toList_eq, hze]
      rfl
    clear hze
    by_cases h2 : x.data.toList = List.replicate 512 0
    · rw [if_pos h2] at hrd
      have e2 : (x.toList == z.toList) = true := by rw [HZt.out]; exact decide_eq_true h2
      have HE0 := HOF.out fs hrd.symm
      clear hrd
      obtain ⟨av, cap, rfl, hfil⟩ := HOw.out.files
      have HFi : Hid (M.Files wr av fs.length cap fs) := hfil
      clear hfil h2
      obtain ⟨y, hye⟩ : ∃ y, y = M.packB fs := ⟨_, rfl⟩
      have HYE : Hid (y = M.packB fs) := hye
      rw [← hye] at HE0
      clear hye
      go_wp2_with fail
      refine (HZ.out _).mono ?_
      rintro e w2 ⟨rfl, hb2⟩
      rw [← HZZ.out]
      have HB2 : Hid (Below (w.alloc (.cells #[.slice none 0 0, .int .i64 0, .int .i64 0] 70)).heap.size (w.alloc (.cells #[.slice none 0 0, .int .i64 0, .int .i64 0] 70)) w2) := M.s1' HBr.out hb2
      have HF2 : Hid (M.Files w2 av fs.length cap fs) := HFi.out.below hb2
      have HO2 := HOw.out.below hb2
      clear hb2
      go_wp2_with fail
      refine (sPack_any _ av fs.length cap fs HF2.out HFk.out).mono ?_
      rintro e w3 ⟨rfl, hb3⟩
      rw [← HYE.out]
      have HB3 : Hid (Below (w.alloc (.cells #[.slice none 0 0, .int .i64 0, .int .i64 0] 70)).heap.size (w.alloc (.cells #[.slice none 0 0, .int .i64 0, .int .i64 0] 70)) w3) := M.s1' HB2.out hb3
      have HO3 : Hid (M.Own w3 (w.heap.size + 1) 54 (.slice av fs.length cap) fs) := HO2.below hb3
      clear hb3 HO2
      by_cases h3 : y.data.toList = t.data.toList
      · rw [if_pos h3] at HE0
        have HE : Hid (M.outL M.recS t.data.toList = (0, 0, fs)) := HE0
        have e3 : (y.toList != t.toList) = false := by rw [bne_eq_false_iff_eq, ByteArray.toList_eq, ByteArray.toList_eq]; exact h3
        have e3' : (y.toList == t.toList) = true := by rw [beq_iff_eq, ByteArray.toList_eq, ByteArray.toList_eq]; exact h3
        have hb1 := HB3.out
        have g0 := M.boxed hb1 0 _ rfl
        have g1 := M.boxed hb1 1 _ rfl
        have g2 := M.boxed hb1 2 _ rfl
        have f0 : ∀ j, w3.frozen? ⟨w.heap.size, j, none⟩ = false := fun j => by rw [hb1.frozen (p := ⟨w.heap.size, j, none⟩) (by simp)]; exact World.frozen?_alloc_new _ _ _ _
        have HB1 : Hid (Below w.heap.size w w3) := M.boxed_below hb1
        have HFF : Hid (∀ v0 v1 v2, M.Files (((w3.setCell ⟨w.heap.size, 0, none⟩ v0).setCell ⟨w.heap.size, 1, none⟩ v1).setCell ⟨w.heap.size, 2, none⟩ v2) av fs.length cap fs) := fun v0 v1 v2 => by
          have h5 := ownsRow_setCell_below (ownsRow_setCell_below (ownsRow_setCell_below HO3.out (a := ⟨w.heap.size, 0, none⟩) (Nat.lt_succ_self _) v0) (a := ⟨w.heap.size, 1, none⟩) (Nat.lt_succ_self _) v1) (a := ⟨w.heap.size, 2, none⟩) (Nat.lt_succ_self _) v2
          obtain ⟨a', c', hv, hf⟩ := M.Own.files (gs := fs) h5
          cases hv
          exact hf
        clear hb1 HE0 h3
        go_wp2
        exact bodyPost_ret (v := .agg #[.slice av fs.length cap, .int .i64 0, .int .i64 0]) (by simp [results, Tryz.results79, go_sem, g0, g1, g2]) rfl ⟨by rw [HE.out]; exact ⟨av, cap, rfl, HFF.out _ _ _⟩, ((HB1.out.setCell (Nat.le_refl _) _).setCell (Nat.le_refl _) _).setCell (Nat.le_refl _) _⟩
      · rw [if_neg h3] at HE0
        have HE : Hid (M.outL M.recS t.data.toList = (3, 0, [])) := HE0
        have e3 : (y.toList != t.toList) = true := by rw [bne_iff_ne, ByteArray.toList_eq, ByteArray.toList_eq]; exact h3
        have e3' : (y.toList == t.toList) = false := by rw [beq_eq_false_iff_ne, ByteArray.toList_eq, ByteArray.toList_eq]; exact h3
        have HI0 : Hid (∀ W, Calls Tryz.prog 101 #[.int .i64 3, .int .i64 0] W fun e w' => e = .returned (.agg #[.slice none 0 0, .int .i64 0, .int .i64 3]) ∧ Below W.heap.size W w') := fun W => HIll.out 3 0 W (by omega)
        clear HE0 h3
        go_wp2_with fail
        refine (HI0.out _).mono ?_
        rintro e w1 ⟨rfl, hb⟩
        have hb1 := M.s1' HB3.out hb
        have g0 := M.boxed hb1 0 _ rfl
        have g1 := M.boxed hb1 1 _ rfl
        have g2 := M.boxed hb1 2 _ rfl
        have f0 : ∀ j, w1.frozen? ⟨w.heap.size, j, none⟩ = false := fun j => by rw [hb1.frozen (p := ⟨w.heap.size, j, none⟩) (by simp)]; exact World.frozen?_alloc_new _ _ _ _
        have HB1 : Hid (Below w.heap.size w w1) := M.boxed_below hb1
        clear hb hb1
        go_wp2
        exact bodyPost_ret (v := .agg #[.slice none 0 0, .int .i64 0, .int .i64 3]) (by simp [results, Tryz.results79, go_sem, g0, g1, g2]) rfl ⟨by rw [HE.out]; exact M.paxIll _ _ _, ((HB1.out.setCell (Nat.le_refl _) _).setCell (Nat.le_refl _) _).setCell (Nat.le_refl _) _⟩
    rw [if_neg h2] at hrd
    have e2 : (x.toList == z.toList) = false := by rw [HZt.out]; exact decide_eq_false h2
    clear h2
    obtain ⟨q, hqe⟩ : ∃ q, q = M.sumH x := ⟨_, rfl⟩
    have hq : q ≤ 1000000 := by
      have := M.sumK_le x x.size
      rw [hqe]; unfold M.sumH; rw [hxs] at this ⊢; omega
    obtain ⟨ob, hoe⟩ : ∃ ob, ob = M.octB q 6 := ⟨_, rfl⟩
    have hob : ob.size ≤ 6 := by rw [hoe]; exact M.octB_size _ _
    obtain ⟨x8, hx8⟩ : ∃ x8, x.extract 148 156 = x8 := ⟨_, rfl⟩
    have HSO : Hid (M.sumOkL x.data.toList = (x8.toList == (ob ++ (⟨#[0, 32]⟩ : ByteArray)).toList)) := by
      show _ = _
      unfold M.sumOkL
      rw [Bool.eq_iff_iff, beq_iff_eq, decide_eq_true_iff, ByteArray.toList_eq, ByteArray.toList_eq, M.app_list, hoe, hqe, ← hx8, M.cut_mk x 148 156, show M.ba x.data.toList = x from (M.ba_toL x).symm]
      rfl
    have HCS : Hid (∀ W, Calls Tryz.prog 104 #[.string x] W fun e w' => e = .returned (.int .i64 q) ∧ Below W.heap.size W w') := fun W => by rw [hqe]; exact (sSum_any x W (by omega)).mono fun e w' h => ⟨h.1, by rw [← h.2]; exact Below.refl _ _⟩
    have HCO : Hid (∀ W, Calls Tryz.prog 103 #[.int .i64 q, .int .i64 6] W fun e w' => e = .returned (.string ob) ∧ Below W.heap.size W w') := fun W => by rw [hoe]; exact sOct_any q 6 W (by omega) (by decide)
    clear hqe hoe
    go_wp2_with fail
    refine (HZ.out _).mono ?_
    rintro e w2 ⟨rfl, hb2⟩
    rw [← HZZ.out]
    have HB2 : Hid (Below (w.alloc (.cells #[.slice none 0 0, .int .i64 0, .int .i64 0] 70)).heap.size (w.alloc (.cells #[.slice none 0 0, .int .i64 0, .int .i64 0] 70)) w2) := M.s1' HBr.out hb2
    have HO2 := M.hidq (HOw.out.below hb2)
    clear hb2
    go_wp2_with fail
    have HX : Hid (∀ y : M.Wd w2, Below (w.alloc (.cells #[.slice none 0 0, .int .i64 0, .int .i64 0] 70)).heap.size (w.alloc (.cells #[.slice none 0 0, .int .i64 0, .int .i64 0] 70)) y.val ∧ M.Own y.val (w.heap.size + 1) 54 u3 fs) := fun y => ⟨M.s1' HB2.out y.bel, HO2.out.below y.bel⟩
    have CS : Hid (∀ y : M.Wd w2, Calls Tryz.prog 104 #[.string x] y.val fun e w' => e = .returned (.int .i64 q) ∧ Below y.val.heap.size y.val w') := fun y => HCS.out y.val
    have CO : Hid (∀ y : M.Wd w2, Calls Tryz.prog 103 #[.int .i64 q, .int .i64 6] y.val fun e w' => e = .returned (.string ob) ∧ Below y.val.heap.size y.val w') := fun y => HCO.out y.val
    cases hso : (x8.toList == (ob ++ (⟨#[0, 32]⟩ : ByteArray)).toList)
    case false =>
      have hsk := HSO.out
      rw [hso] at hsk
      rw [if_pos hsk] at hrd
      have HE : Hid (M.outL M.recS t.data.toList = (5, a / 512, [])) := HOI.out _ _ hrd.symm
      have e3 : (x8.toList != (ob ++ (⟨#[0, 32]⟩ : ByteArray)).toList) = true := by unfold bne; rw [hso]; rfl
      clear hrd hsk
      refine M.wp_region_wd (by kernel_rfl) (by kernel_rfl) (fun _ => ?_)
      repeat (first | go_big_quiet_skip | (go_big_quiet_want; go_big_quiet_op; first | go_big_quiet_on | (apply Exists.intro; refine ⟨fun y => ?_, ?_⟩; (first | exact M.Wd.call y (CS.out y) | exact M.Wd.call y (CO.out y)); go_big_quiet_on)))
      refine wpQuiet_nil ?_
      intro w9 hw'
      have HB9 : Hid (Below (w.alloc (.cells #[.slice none 0 0, .int .i64 0, .int .i64 0] 70)).heap.size (w.alloc (.cells #[.slice none 0 0, .int .i64 0, .int .i64 0] 70)) w9) := by obtain ⟨y, rfl⟩ := hw'; exact (HX.out y).1
      clear hw'
      go_wp2_with fail
      refine (HIll.out 5 a _ (by omega)).mono ?_
      rintro e w1 ⟨rfl, hb⟩
      have hb1 := M.s1' HB9.out hb
      have g0 := M.boxed hb1 0 _ rfl
      have g1 := M.boxed hb1 1 _ rfl
      have g2 := M.boxed hb1 2 _ rfl
      have f0 : ∀ j, w1.frozen? ⟨w.heap.size, j, none⟩ = false := fun j => by rw [hb1.frozen (p := ⟨w.heap.size, j, none⟩) (by simp)]; exact World.frozen?_alloc_new _ _ _ _
      have HB1 : Hid (Below w.heap.size w w1) := M.boxed_below hb1
      clear hb hb1
      go_wp2
      exact bodyPost_ret (v := .agg #[.slice none 0 0, .int .i64 ((a / 512 : Nat) : Int), .int .i64 5]) (by simp [results, Tryz.results79, go_sem, g0, g1, g2]) rfl ⟨by rw [HE.out]; exact M.paxIll _ _ _, ((HB1.out.setCell (Nat.le_refl _) _).setCell (Nat.le_refl _) _).setCell (Nat.le_refl _) _⟩
    have hsk := HSO.out
    rw [hso] at hsk
    rw [if_neg (by rw [hsk]; decide)] at hrd
    have e3 : (x8.toList != (ob ++ (⟨#[0, 32]⟩ : ByteArray)).toList) = false := by unfold bne; rw [hso]; rfl
    clear hsk
    refine M.wp_region_wd (by kernel_rfl) (by kernel_rfl) (fun _ => ?_)
    repeat (first | go_big_quiet_skip | (go_big_quiet_want; go_big_quiet_op; first | go_big_quiet_on | (apply Exists.intro; refine ⟨fun y => ?_, ?_⟩; (first | exact M.Wd.call y (CS.out y) | exact M.Wd.call y (CO.out y)); go_big_quiet_on)))
    refine wpQuiet_nil ?_
    intro w9 hw'
    have HB9 : Hid (Below (w.alloc (.cells #[.slice none 0 0, .int .i64 0, .int .i64 0] 70)).heap.size (w.alloc (.cells #[.slice none 0 0, .int .i64 0, .int .i64 0] 70)) w9) := by obtain ⟨y, rfl⟩ := hw'; exact (HX.out y).1
    have HO9 : Hid (M.Own w9 (w.heap.size + 1) 54 u3 fs) := by obtain ⟨y, rfl⟩ := hw'; exact (HX.out y).2
    clear hw' HX CS CO hso e3
    obtain ⟨x11, hx11⟩ : ∃ x11, x.extract 124 135 = x11 := ⟨_, rfl⟩
    have hx11s : x11.size ≤ 11 := by rw [← hx11, ByteArray.size_extract]; omega
    obtain ⟨s, hse⟩ : ∃ s, s = M.sizeL x.data.toList := ⟨_, rfl⟩
    have HSE : Hid (s = M.sizeL x.data.toList) := hse
    have hse2 : s = M.octR x11 := by
      rw [hse]; unfold M.sizeL
      rw [← hx11, M.cut_mk x 124 135]; rfl
    have hs9 : s ≤ 8589934591 := by rw [hse2]; exact M.octR_le11 hx11s
    have HOR : Hid (∀ W, Calls Tryz.prog 105 #[.string x11] W fun e w' => e = .returned (.int .i64 s) ∧ W = w') := fun W => by rw [hse2]; exact sOctR_any x11 W (by unfold maxLen; omega)
    rw [← hse] at hrd
    clear hse hse2
    go_wp2_with fail
    refine (HOR.out _).mono ?_
    rintro e w10 ⟨rfl, rfl⟩
    by_cases h4 : s < 0
    · rw [if_pos h4] at hrd
      have HE : Hid (M.outL M.recS t.data.toList = (3, a / 512, [])) := HOI.out _ _ hrd.symm
      clear hrd
      go_wp2_with fail
      refine (HIll.out 3 a _ (by omega)).mono ?_
      rintro e w1 ⟨rfl, hb⟩
      have hb1 := M.s1' HB9.out hb
      have g0 := M.boxed hb1 0 _ rfl
      have g1 := M.boxed hb1 1 _ rfl
      have g2 := M.boxed hb1 2 _ rfl
      have f0 : ∀ j, w1.frozen? ⟨w.heap.size, j, none⟩ = false := fun j => by rw [hb1.frozen (p := ⟨w.heap.size, j, none⟩) (by simp)]; exact World.frozen?_alloc_new _ _ _ _
      have HB1 : Hid (Below w.heap.size w w1) := M.boxed_below hb1
      clear hb hb1
      go_wp2
      exact bodyPost_ret (v := .agg #[.slice none 0 0, .int .i64 ((a / 512 : Nat) : Int), .int .i64 3]) (by simp [results, Tryz.results79, go_sem, g0, g1, g2]) rfl ⟨by rw [HE.out]; exact M.paxIll _ _ _, ((HB1.out.setCell (Nat.le_refl _) _).setCell (Nat.le_refl _) _).setCell (Nat.le_refl _) _⟩
    rw [if_neg h4] at hrd
    obtain ⟨n, rfl⟩ : ∃ n : Nat, s = n := ⟨s.toNat, by omega⟩
    rw [Int.toNat_natCast] at hrd
    obtain ⟨B, hBe⟩ : ∃ B, B = M.blk n := ⟨_, rfl⟩
    rw [← hBe] at hrd
    have hB1 : ((n : Int) + 512 - 1) / 512 = (B : Int) := by rw [hBe]; unfold M.blk; omega
    have hB2 : n ≤ B * 512 := by rw [hBe]; unfold M.blk; omega
    have hB3 : B ≤ 100000000 := by rw [hBe]; unfold M.blk; omega
    clear hBe
    by_cases h5 : t.size < a + 512 + B * 512
    · rw [if_pos h5] at hrd
      have HE : Hid (M.outL M.recS t.data.toList = (4, a / 512, [])) := HOI.out _ _ hrd.symm
      clear hrd
      go_wp2_with fail
      refine (HIll.out 4 a _ (by omega)).mono ?_
      rintro e w1 ⟨rfl, hb⟩
      have hb1 := M.s1' HB9.out hb
      have g0 := M.boxed hb1 0 _ rfl
      have g1 := M.boxed hb1 1 _ rfl
      have g2 := M.boxed hb1 2 _ rfl
      have f0 : ∀ j, w1.frozen? ⟨w.heap.size, j, none⟩ = false := fun j => by rw [hb1.frozen (p := ⟨w.heap.size, j, none⟩) (by simp)]; exact World.frozen?_alloc_new _ _ _ _
      have HB1 : Hid (Below w.heap.size w w1) := M.boxed_below hb1
      clear hb hb1
      go_wp2
      exact bodyPost_ret (v := .agg #[.slice none 0 0, .int .i64 ((a / 512 : Nat) : Int), .int .i64 4]) (by simp [results, Tryz.results79, go_sem, g0, g1, g2]) rfl ⟨by rw [HE.out]; exact M.paxIll _ _ _, ((HB1.out.setCell (Nat.le_refl _) _).setCell (Nat.le_refl _) _).setCell (Nat.le_refl _) _⟩
    rw [if_neg h5] at hrd
    obtain ⟨dx, hdx⟩ : ∃ dx, t.extract (a + 512) (a + 512 + n) = dx := ⟨_, rfl⟩
    have hdxs : dx.size ≤ 20000 := by rw [← hdx, ByteArray.size_extract]; omega
    have HDX : Hid (M.cutL t.data.toList (a + 512) n = dx.data.toList) := by
      show _ = _
      rw [← hdx, M.cut_mk t (a + 512) (a + 512 + n), show a + 512 + n - (a + 512) = n by omega]
      rfl
    rw [HDX.out] at hrd
    have h156 : 156 < x.size := by omega
    have hkx : M.kindL x.data.toList = x[156] := by
      unfold M.kindL
      rw [List.getD_eq_getElem?_getD, M.at_list (by omega), Option.getD_some]
    have HFu2 : Hid (t.size + 512 ≤ (a + 512 + B * 512) + fu * 512) := by
      have := HFu.out
      show _ ≤ _
      omega
    by_cases hk : x[156] = 120
    · have hrd2 : M.readL M.recS t.data.toList fu (a + 512 + B * 512) ⟨(M.ba (M.recS dx.data.toList)).data.toList, fs⟩ = R := by
        rw [← hrd]; unfold M.stepL; rw [hkx, if_pos hk]; rfl
      have HR2 : Hid (M.readL M.recS t.data.toList fu (a + 512 + B * 512) ⟨(M.ba (M.recS dx.data.toList)).data.toList, fs⟩ = R) := hrd2
      have k1 : (((x[156]'h156).toNat : Int) == 120) = true := by rw [hk]; rfl
      obtain ⟨pr, hpr⟩ : ∃ pr, pr = M.ba (M.recS dx.data.toList) := ⟨_, rfl⟩
      have hprs : pr.size ≤ 20000 := by
        rw [hpr, M.ba_size]
        refine Nat.le_trans (M.recS_len _) ?_
        rw [← Lib.size_eq]; exact hdxs
      have HCP : Hid (∀ W, Calls Tryz.prog 106 #[.string dx] W fun e w' => e = .returned (.string pr) ∧ W = w') := fun W => by rw [hpr]; exact sRecP_any dx W (by omega)
      rw [← hpr] at HR2
      clear hrd hrd2 hk hkx hpr
      go_wp2_with fail
      refine (HCP.out _).mono ?_
      rintro e w11 ⟨rfl, rfl⟩
      go_wp2
      go_roundw
      case rel => exact ⟨a + 512 + B * 512, fu, pr, fs, by go_num, rfl, by omega, hprs, by omega, HR2, HFu2, HFk, HO9, HB9⟩
      case measure => simp [intOf]; omega
    · obtain ⟨f, hfe⟩ : ∃ f, f = M.fileL x.data.toList dx.data.toList pa.data.toList := ⟨_, rfl⟩
      have hrd2 : M.readL M.recS t.data.toList fu (a + 512 + B * 512) ⟨(⟨#[]⟩ : ByteArray).data.toList, fs ++ [f]⟩ = R := by
        rw [← hrd]; unfold M.stepL; rw [hkx, if_neg hk, hfe]
      have HR2 : Hid (M.readL M.recS t.data.toList fu (a + 512 + B * 512) ⟨(⟨#[]⟩ : ByteArray).data.toList, fs ++ [f]⟩ = R) := hrd2
      have k1 : (((x[156]'h156).toNat : Int) == 120) = false := by rw [beq_eq_false_iff_ne]; exact fun e => hk (UInt8.toNat_inj.1 (by show _ = 120; omega))
      have HFk2 : Hid (∀ g ∈ fs ++ [f], M.fok g) := fun g hg => by
        rcases List.mem_append.1 hg with h | h
        · exact HFk.out g h
        · rw [List.mem_singleton] at h
          rw [h, hfe]
          exact M.fok_fileL (by rw [← Lib.size_eq]; omega) (by rw [← Lib.size_eq]; omega)
      have hC := fun W => sOf_any x dx pa W hxs (by omega)
      rw [← hfe] at hC
      unfold M.fval at hC
      have HCF : Hid (∀ W, Calls Tryz.prog 107 #[.string x, .string dx, .string pa] W fun e w' => e = .returned (.agg #[.string f.path, .bool f.dir, .int .i64 f.mode, .int .i64 f.time, .string f.data]) ∧ Below W.heap.size W w') := hC
      clear hrd hrd2 hk hkx hfe hC
      go_wp2_with fail
      refine (HCF.out _).mono ?_
      rintro e w11 ⟨rfl, hb⟩
      have HO11 := HO9.out.below hb
      have HB11 := M.s1' HB9.out hb
      have hsz11 := HB11.size
      clear hb
      go_wp2_with (at_builtin; refine wpList_append_own _ rfl (.tmp 80) (.tmp 85) 27 rfl (w.heap.size + 1) 54 i0 (.agg #[.string ⟨#[]⟩, .bool false, .int .i64 0, .int .i64 0, .string ⟨#[]⟩]) 5 56 Tryz.underlying27 hi hz0 hz1 hz2 rfl (by decide) _ _ _ rfl (World.ownsRow.alloc HO11 _) ⟨w11.heap.size, 0, none⟩ 1 1 (M.fcells f) rfl rfl (M.five_n _ _ _) ?c2 ?c3 ?c4 ?c5 ?_)
      case c2 => exact M.oneCellN f
      case c3 => unfold maxLen; omega
      case c4 => omega
      case c5 => simp at hsz11 ⊢; omega
      intro v' w12 hown' hgrow _
      have HO12 : Hid (M.Own w12 (w.heap.size + 1) 54 v' (fs ++ [f])) := M.Own.more hown'
      have hgall : w11.grownBy w12 _ := ((World.grownBy_alloc w11 _ none).but _).trans hgrow
      have HB12 : Hid (Below (w.alloc (.cells #[.slice none 0 0, .int .i64 0, .int .i64 0] 70)).heap.size (w.alloc (.cells #[.slice none 0 0, .int .i64 0, .int .i64 0] 70)) w12) := HB11.grown hgall HB11.size (fun j hj => by have := (World.ownsRow.lt HO11 j hj).1; simp; omega)
      clear hown' hgrow hgall HO11 HB11 hsz11
      go_wp2
      go_roundw
      case rel => exact ⟨a + 512 + B * 512, fu, ⟨#[]⟩, fs ++ [f], by go_num, rfl, by omega, Nat.zero_le _, by rw [List.length_append]; show (fs.length + 1) * 512 ≤ _; omega, HR2, HFu2, HFk2, HO12, HB12⟩
      case measure => simp [intOf]; omega
end Go.Proofs.YtephjmlcbpfnaaaGreatDoor
