/-
  What Unpack of the program does.
-/
import Derived.Test.YthiojdemcaaihaaGreatDoorPart15
import Derived.Test.YthiojdemcaaihaaGreatDoorSUnpack
import Derived.Test.YthiojdemcaaihaaGreatDoorPart11
namespace Go.Proofs.YthiojdemcaaihaaGreatDoor
open Go.RowKit

set_option maxRecDepth 100000 in
theorem iHHere_any (g : Nat) (t : ByteArray) (k : Nat) (w : World) (H : M.Cur w g t k) (ht : t.size ≤ 20000) (hk : k * 512 ≤ 20000) (hz : M.tz w) :
    Calls Tryz.prog 17 #[.pointer (some ⟨g, 0, none⟩)] w fun e w' => e = .returned (.tuple #[.agg ((M.hdrL t.data.toList (k * 512)).map M.u8).toArray, M.errV (M.hdrC t.data.toList (k * 512))]) ∧ Below w.heap.size w w' := by
  by_cases h : t.size < k * 512 + 512
  · have e1 : M.hdrL t.data.toList (k * 512) = List.replicate 512 0 := by unfold M.hdrL; rw [if_pos (by rw [← Lib.size_eq]; exact h)]
    have e2 : M.hdrC t.data.toList (k * 512) = 4 := by unfold M.hdrC; rw [if_pos (by rw [← Lib.size_eq]; exact h)]
    rw [e1, e2]
    exact iHHere_short g t k w H ht hk h (fun W hW => iLeft_any g t k W hW (by omega) (by omega))
  · exact iHHere_long g t k w H ht (by omega) (fun W hW => iLeft_any g t k W hW (by omega) (by omega)) (fun W hW => iHere_any g t k 512 W hW (by omega) (by omega))
      (fun b L W hL hA => iField_any b L 148 8 W hL (by decide) (by decide) hA) (fun b L W hL hA hb => iSumT_any b L W hL hA (hz.below hb)) (fun b L W hL hA => iHSize_any b L W hL hA) (fun n W hn => iBlocks_any n W hn)

/-- A step of the reading, told by what the program looks at. -/
theorem M.readL_hdr (p : List UInt8 → List UInt8) (t : List UInt8) (fuel a : Nat) (st : M.St) :
    (M.hdrC t a ≠ 0 → M.readL p t (fuel + 1) a st = M.Rd.ill (M.hdrC t a) (a / 512)) ∧
    (M.hdrC t a = 0 → M.hdrL t a = List.replicate 512 0 → M.readL p t (fuel + 1) a st = M.Rd.fin st.out) ∧
    (M.hdrC t a = 0 → ¬ M.hdrL t a = List.replicate 512 0 → M.hdrL t a = M.cutL t a 512 ∧ 0 ≤ M.sizeL (M.hdrL t a) ∧ a + 512 + M.blk (M.sizeL (M.hdrL t a)).toNat * 512 ≤ t.length ∧
      M.readL p t (fuel + 1) a st = M.readL p t fuel (a + 512 + M.blk (M.sizeL (M.hdrL t a)).toNat * 512) (M.stepL p (M.hdrL t a) (M.cutL t (a + 512) (M.sizeL (M.hdrL t a)).toNat) st)) := by
  unfold M.hdrC M.hdrL
  rw [M.readL]
  by_cases h1 : t.length < a + 512
  · simp only [if_pos h1]
    exact ⟨fun _ => by trivial, fun h => absurd h (by decide), fun h => absurd h (by decide)⟩
  simp only [if_neg h1]
  by_cases h2 : M.cutL t a 512 = List.replicate 512 0
  · simp only [if_pos h2]
    exact ⟨fun h => absurd rfl h, fun _ _ => by trivial, fun _ h => absurd h2 h⟩
  simp only [if_neg h2]
  by_cases h3 : M.sumOkL (M.cutL t a 512) = false
  · simp only [if_pos h3]
    exact ⟨fun _ => by trivial, fun h => absurd h (by decide), fun h => absurd h (by decide)⟩
  simp only [if_neg h3]
  by_cases h4 : M.sizeL (M.cutL t a 512) < 0
  · simp only [if_pos h4]
    exact ⟨fun _ => by trivial, fun h => absurd h (by decide), fun h => absurd h (by decide)⟩
  simp only [if_neg h4]
  by_cases h5 : t.length < a + 512 + M.blk (M.sizeL (M.cutL t a 512)).toNat * 512
  · simp only [if_pos h5]
    exact ⟨fun _ => by trivial, fun h => absurd h (by decide), fun h => absurd h (by decide)⟩
  simp only [if_neg h5]
  exact ⟨fun h => absurd rfl h, fun _ h => absurd h h2, fun _ _ => ⟨by trivial, by omega, by omega, by trivial⟩⟩
theorem M.recI_len (l : List UInt8) : (M.recI l).length ≤ l.length := by
  have h1 := M.cut_len l M.keyL
  unfold M.recI Lib.trimSuffix
  split
  · rw [List.length_take]; omega
  · exact h1
/-- The place at which a reader stands. -/
def M.at1 (w : World) (g : Nat) : Nat := match w.cell? ⟨g, 1, none⟩ with | some (.int .i64 k) => k.toNat | _ => 0
theorem M.Rdr.at1 {w : World} {g : Nat} {t : ByteArray} {k : Nat} {p : ByteArray} {v : Value} (H : M.Rdr w g t k p v) : M.at1 w g = k := by unfold M.at1; rw [H.c1]; rfl
/-- What Unpack answers: a list of files in memory of its own, a place, a code. -/
def M.PaxOwn (w' : World) (base : Nat) (e : Ending) (r : Int × Nat × List M.FileD) : Prop :=
  ∃ v, e = .returned (.agg #[v, .int .i64 (r.2.1 : Int), .int .i64 r.1]) ∧ M.Own w' base 36 v r.2.2
theorem M.own_nil (w : World) (base : Nat) (T : TypeId) : M.Own w base T (.slice none 0 0) [] := ⟨rfl, .inl ⟨rfl, rfl⟩⟩
theorem M.paxIllO (w : World) (base : Nat) (c : Int) (a : Nat) : M.PaxOwn w base (.returned (.agg #[.slice none 0 0, .int .i64 (a : Int), .int .i64 c])) (c, a, []) := ⟨_, rfl, M.own_nil _ _ _⟩
theorem M.Own.down {w : World} {b b' : Nat} {T : TypeId} {v : Value} {gs : List M.FileD} (h : M.Own w b T v gs) (hb : b' ≤ b) : M.Own w b' T v gs := by
  obtain ⟨hl, h0 | ⟨g, cap, cur, hv, hg, hr⟩⟩ := h
  · exact ⟨hl, .inl h0⟩
  · exact ⟨hl, .inr ⟨g, cap, cur, hv, Nat.le_trans hb hg, hr⟩⟩

theorem M.boxed_free {w w1 : World} {T : TypeId} {vs : Array Value} (hb : Below (w.alloc (.cells vs T)).heap.size (w.alloc (.cells vs T)) w1) : ∀ j, w1.frozen? ⟨w.heap.size, j, none⟩ = false := fun j => by
  rw [hb.frozen (p := ⟨w.heap.size, j, none⟩) (by simp)]; exact World.frozen?_alloc_new _ _ _ _

set_option maxRecDepth 100000 in
set_option maxHeartbeats 400000 in
theorem iUnpack_long (t : ByteArray) (w : World) (hs : t.size ≤ maxLen) (h : 20000 < t.size) :
    Calls Tryz.prog 5 #[.string t] w fun e w' => e = .returned (.agg #[.slice none 0 0, .int .i64 0, .int .i64 2]) ∧ Below w.heap.size w w' := by
  unfold maxLen at hs
  go_enter Tryz.func5, Tryz.ntmps5
  go_wp2
  exact bodyPost_ret (v := .agg #[.slice none 0 0, .int .i64 0, .int .i64 2]) (by simp [results, Tryz.results5, go_sem]) rfl ⟨rfl, (Below.refl _ _).alloc (Nat.le_refl _) _⟩

set_option maxRecDepth 100000 in
set_option maxHeartbeats 1600000 in
theorem iUnpack_any (t : ByteArray) (w : World) (hs : t.size ≤ 20000) (hm : M.ml w) (hw : M.pw w) (htz : M.tz w) (hg : M.errT w) :
    Calls Tryz.prog 5 #[.string t] w fun e w' => M.PaxOwn w' w.heap.size e (M.outL M.recI t.data.toList) ∧ Below w.heap.size w w' := by
  have htl : t.data.toList.length = t.size := by rw [← Lib.size_eq]
  have HTL : Hid (t.data.toList.length = t.size) := htl
  obtain ⟨R, hR⟩ : ∃ R, R = M.readL M.recI t.data.toList (M.fuelL t.data.toList) 0 ⟨[], []⟩ := ⟨_, rfl⟩
  have HOI : Hid (∀ c a, R = M.Rd.ill c a → M.outL M.recI t.data.toList = (c, a, [])) := fun c a h => by unfold M.outL; rw [← hR, h]
  have HOF : Hid (∀ fs, R = M.Rd.fin fs → M.outL M.recI t.data.toList = if (M.packB fs).data.toList = t.data.toList then (0, 0, fs) else (3, 0, [])) := fun fs h => by unfold M.outL; rw [← hR, h]
  have HST : Hid (R = M.readL M.recI t.data.toList (M.fuelL t.data.toList) 0 ⟨[], []⟩) := hR
  have HG : Hid (M.ml w ∧ M.pw w ∧ M.tz w ∧ M.errT w) := ⟨hm, hw, htz, hg⟩
  have hzr := (zero_of_info Tryz.infoH).1
  have HI : Hid ((Tryz.prog.info? 43).map (·.size) = some 512) := (zero_of_info Tryz.infoH).2
  have hgd := Tryz.guardH
  have d0 : decide (20000 < (t.size : Int)) = false := decide_eq_false (by omega)
  have HML : Hid (1 < w.heap.size) := by obtain ⟨m, hm'⟩ := hm; exact World.block_lt_of_cell? w _ hm'
  clear hR htl hm hw htz hg
  go_enter Tryz.func5, Tryz.ntmps5
  go_wp2
  go_loopw [4] (fun _ wr => ∃ (k fuel : Nat) (p : ByteArray) (v : Value) (fs : List M.FileD), k * 512 ≤ t.size ∧ p.size ≤ 20000 ∧ fs.length ≤ k ∧ Hid (M.readL M.recI t.data.toList fuel (k * 512) ⟨p.data.toList, fs⟩ = R) ∧ Hid (t.size + 512 ≤ k * 512 + fuel * 512) ∧ Hid (∀ f ∈ fs, M.fok f)
    ∧ Hid (M.Rdr wr (w.heap.size + 1) t k p v) ∧ Hid (M.Own wr (w.heap.size + 1 + 1) 36 v fs) ∧ Hid (Below (w.alloc (.cells #[.slice none 0 0, .int .i64 0, .int .i64 0] 24)).heap.size (w.alloc (.cells #[.slice none 0 0, .int .i64 0, .int .i64 0] 24)) wr)) (fun _ wr => t.size + 1 - M.at1 wr (w.heap.size + 1) * 512)
  case atStart =>
    refine ⟨0, M.fuelL t.data.toList, ⟨#[]⟩, .slice none 0 0, [], by omega, by decide, Nat.le_refl _, (show M.readL M.recI t.data.toList (M.fuelL t.data.toList) 0 ⟨[], []⟩ = R from HST.out.symm), ?_, (fun f hf => absurd hf List.not_mem_nil), ⟨?_, ?_, ?_, ?_, ?_⟩, M.own_nil _ _ _, (Below.refl _ _).alloc (Nat.le_refl _) _⟩
    · show _ ≤ _
      unfold M.fuelL
      rw [HTL.out]
      omega
    · rw [World.cell?_alloc_at _ _ _ _ (by simp)]; rfl
    · rw [World.cell?_alloc_at _ _ _ _ (by simp)]; rfl
    · rw [World.cell?_alloc_at _ _ _ _ (by simp)]; rfl
    · rw [World.cell?_alloc_at _ _ _ _ (by simp)]; rfl
    · intro j
      unfold World.frozen?
      rw [heap_alloc2_new]
      simp
  case round =>
    obtain ⟨k, fuel, p, v, fs, hk, hp, hfl, HRd, HFu, HFk, HRr, HOw, HBr⟩ := hrel
    obtain ⟨fu, rfl⟩ : ∃ fu, fuel = fu + 1 := ⟨fuel - 1, by have := HFu.out; omega⟩
    obtain ⟨s1, s2, s3⟩ := M.readL_hdr M.recI t.data.toList fu (k * 512) ⟨p.data.toList, fs⟩
    rw [HRd.out, Nat.mul_div_cancel k (by decide)] at s1
    rw [HRd.out] at s2 s3
    rw [HTL.out] at s3
    have HBw : Hid (Below w.heap.size w wr) := M.boxed_below HBr.out
    have CH := iHHere_any (w.heap.size + 1) t k wr HRr.out.cur hs (by omega) (HG.out.2.2.1.below HBw.out)
    have hLl := M.hdrL_len t.data.toList (k * 512)
    generalize M.hdrL t.data.toList (k * 512) = L at *
    generalize M.hdrC t.data.toList (k * 512) = c at *
    have HLN := M.hidp hLl
    have HCH := M.hidp CH
    have S2 := M.hidp s2
    have S3 := M.hidp s3
    clear CH hLl s2 s3 HRd
    by_cases hc : c = 0
    case neg =>
      have HE : Hid (M.outL M.recI t.data.toList = (c, k, [])) := HOI.out _ _ (s1 hc)
      have hV : M.errV c = .iface 58 (.agg #[.int .i64 c]) := by unfold M.errV; rw [if_neg hc]
      rw [hV] at HCH
      clear hV s1 S2 S3
      go_wp2_with fail
      refine HCH.out.mono ?_
      rintro e w1 ⟨rfl, hb1⟩
      obtain ⟨W2, hst, H2, hB2⟩ := M.Arr.store (P := Tryz.prog) (M.arr_made w1 43 (List.replicate 512 0)) L (by rw [List.length_replicate]; exact HLN.out.symm)
      have hst' : (storeCells ⟨w1.heap.size, 0, none⟩ (L.map M.u8)).run Tryz.prog (w1.alloc (.cells M.zer 43)) = .ok () W2 := hst
      have hb2 : Below w1.heap.size w1 W2 := hB2 _ _ (Nat.le_refl _) ((Below.refl _ _).alloc (Nat.le_refl _) _)
      have B2 : Hid (Below (w.alloc (.cells #[.slice none 0 0, .int .i64 0, .int .i64 0] 24)).heap.size (w.alloc (.cells #[.slice none 0 0, .int .i64 0, .int .i64 0] 24)) W2) := M.s1' (M.s1' HBr.out hb1) hb2
      have R2 := M.hidp ((HRr.out.below hb1).below hb2)
      have E2 : Hid (M.errT W2) := M.errT_below HG.out.2.2.2 (M.boxed_below B2.out)
      clear hst H2 hB2 hb1 hb2 HCH HOw HRr
      have r1 := R2.out.c1
      go_wp2_with fail
      go_region_with (go_at_call 18; refine (codeOf_hit c _ (M.errT_below E2.out (Below.refl _ _).drew)).mono ?_; rintro e w3 ⟨rfl, hb3⟩; have hb3' := M.s1' (M.s1' B2.out (Below.refl _ _).drew) hb3; have q1 : w3.cell? ⟨w.heap.size + 1, 1, none⟩ = some (.int .i64 k) := ((R2.out.below (Below.refl _ _).drew).below hb3).c1; have g0 := M.boxed hb3' 0 _ rfl; have g1 := M.boxed hb3' 1 _ rfl; have g2 := M.boxed hb3' 2 _ rfl; have f0 := M.boxed_free hb3'; have B3 : Hid (Below w.heap.size w w3) := M.boxed_below hb3'; clear hb3 hb3')
      all_goals
        go_wp2
        exact bodyPost_ret (v := .agg #[.slice none 0 0, .int .i64 (k : Int), .int .i64 c]) (by simp [results, Tryz.results5, go_sem, g0, g1, g2]) rfl ⟨by rw [HE.out]; exact M.paxIllO _ _ _ _, ((B3.out.setCell (Nat.le_refl _) _).setCell (Nat.le_refl _) _).setCell (Nat.le_refl _) _⟩
    case pos =>
      subst hc
      have hV : M.errV 0 = .nilIface := rfl
      rw [hV] at HCH
      clear hV s1
      go_wp2_with fail
      refine HCH.out.mono ?_
      rintro e w1 ⟨rfl, hb1⟩
      obtain ⟨W2, hst, H2, hB2⟩ := M.Arr.store (P := Tryz.prog) (M.arr_made w1 43 (List.replicate 512 0)) L (by rw [List.length_replicate]; exact HLN.out.symm)
      have hst' : (storeCells ⟨w1.heap.size, 0, none⟩ (L.map M.u8)).run Tryz.prog (w1.alloc (.cells M.zer 43)) = .ok () W2 := hst
      have hb2 : Below w1.heap.size w1 W2 := hB2 _ _ (Nat.le_refl _) ((Below.refl _ _).alloc (Nat.le_refl _) _)
      have B2 : Hid (Below (w.alloc (.cells #[.slice none 0 0, .int .i64 0, .int .i64 0] 24)).heap.size (w.alloc (.cells #[.slice none 0 0, .int .i64 0, .int .i64 0] 24)) W2) := M.s1' (M.s1' HBr.out hb1) hb2
      have B2w : Hid (Below w.heap.size w W2) := M.boxed_below B2.out
      have R2 := M.hidp ((HRr.out.below hb1).below hb2)
      have O2 := M.hidp ((HOw.out.below hb1).below hb2)
      have X2 := M.hidp H2
      have HA1 : Hid (M.at1 wr (w.heap.size + 1) = k) := HRr.out.at1
      clear hst H2 hB2 hb1 hb2 HCH HOw HRr HBr HBw
      have hq : ∀ W, (binOp .eql 43 (.agg (L.map M.u8).toArray) (.agg M.zer)).run Tryz.prog W = .ok (.bool (decide (L = List.replicate 512 0))) W := fun W => M.hdr_eq L (List.replicate 512 0) HLN.out List.length_replicate W
      by_cases hzz : L = List.replicate 512 0
      · have HE0 := HOF.out fs (S2.out trivial hzz)
        rw [decide_eq_true hzz] at hq
        clear hzz S2 S3
        obtain ⟨av, cap, hv, hfil⟩ := O2.out.files
        subst hv
        have HFi := M.hidp hfil
        obtain ⟨y, hye⟩ : ∃ y, y = M.packB fs := ⟨_, rfl⟩
        have CP : Hid (Calls Tryz.prog 20 #[.slice av fs.length cap] W2 fun e w' => e = .returned (.string y) ∧ Below W2.heap.size W2 w') := by rw [hye]; exact iPack_any W2 av fs.length cap fs hfil HFk.out (M.ml_below HG.out.1 B2w.out) (HG.out.2.1.below B2w.out) (HG.out.2.2.1.below B2w.out)
        rw [← hye] at HE0
        have r3 := R2.out.c3
        clear hfil hye
        go_wp2_with (refine wpList_load_row rfl 43 _ rfl w1.heap.size rfl _ _ _ _ X2.out Tryz.underlying43 rfl (by rw [HI.out]; simp [HLN.out]) ?_)
        refine CP.out.mono ?_
        rintro e w3 ⟨rfl, hb3⟩
        have hb3' := M.s1' B2.out hb3
        have g0 := M.boxed hb3' 0 _ rfl
        have g1 := M.boxed hb3' 1 _ rfl
        have g2 := M.boxed hb3' 2 _ rfl
        have f0 := M.boxed_free hb3'
        have B3 : Hid (Below w.heap.size w w3) := M.boxed_below hb3'
        have R3 := M.hidp (R2.out.below hb3)
        have O3 := M.hidp (O2.out.below hb3)
        have q3 := R3.out.c3
        clear hb3 hb3' r3 hst' hq
        by_cases h3 : y.data.toList = t.data.toList
        · rw [if_pos h3] at HE0
          have HE : Hid (M.outL M.recI t.data.toList = (0, 0, fs)) := HE0
          have e3 : (y.toList != t.toList) = false := by rw [bne_eq_false_iff_eq, ByteArray.toList_eq, ByteArray.toList_eq]; exact h3
          have e3' : (y.toList == t.toList) = true := by rw [beq_iff_eq, ByteArray.toList_eq, ByteArray.toList_eq]; exact h3
          have HOO : Hid (∀ v0 v1 v2, M.Own (((w3.setCell ⟨w.heap.size, 0, none⟩ v0).setCell ⟨w.heap.size, 1, none⟩ v1).setCell ⟨w.heap.size, 2, none⟩ v2) w.heap.size 36 (.slice av fs.length cap) fs) := fun v0 v1 v2 =>
            M.Own.down (ownsRow_setCell_below (ownsRow_setCell_below (ownsRow_setCell_below O3.out (a := ⟨w.heap.size, 0, none⟩) (Nat.lt_succ_of_lt (Nat.lt_succ_self _)) v0) (a := ⟨w.heap.size, 1, none⟩) (Nat.lt_succ_of_lt (Nat.lt_succ_self _)) v1) (a := ⟨w.heap.size, 2, none⟩) (Nat.lt_succ_of_lt (Nat.lt_succ_self _)) v2) (by omega)
          clear HE0 h3
          go_wp2
          exact bodyPost_ret (v := .agg #[.slice av fs.length cap, .int .i64 0, .int .i64 0]) (by simp [results, Tryz.results5, go_sem, g0, g1, g2]) rfl ⟨by rw [HE.out]; exact ⟨_, rfl, HOO.out _ _ _⟩, ((B3.out.setCell (Nat.le_refl _) _).setCell (Nat.le_refl _) _).setCell (Nat.le_refl _) _⟩
        · rw [if_neg h3] at HE0
          have HE : Hid (M.outL M.recI t.data.toList = (3, 0, [])) := HE0
          have e3 : (y.toList != t.toList) = true := by rw [bne_iff_ne, ByteArray.toList_eq, ByteArray.toList_eq]; exact h3
          have e3' : (y.toList == t.toList) = false := by rw [beq_eq_false_iff_ne, ByteArray.toList_eq, ByteArray.toList_eq]; exact h3
          clear HE0 h3
          go_wp2
          exact bodyPost_ret (v := .agg #[.slice none 0 0, .int .i64 0, .int .i64 3]) (by simp [results, Tryz.results5, go_sem, g0, g1, g2]) rfl ⟨by rw [HE.out]; exact M.paxIllO _ _ _ _, ((B3.out.setCell (Nat.le_refl _) _).setCell (Nat.le_refl _) _).setCell (Nat.le_refl _) _⟩
      · obtain ⟨hLc, hs0, hlen, hrd⟩ := S3.out trivial hzz
        rw [decide_eq_false hzz] at hq
        obtain ⟨n, hn⟩ : ∃ n : Nat, M.sizeL L = n := ⟨(M.sizeL L).toNat, by omega⟩
        rw [hn, Int.toNat_natCast] at hlen hrd
        unfold M.blk at hlen hrd
        have hk2 : (k + 1) * 512 + n ≤ t.size := by omega
        have CP := iPass_any (w.heap.size + 1) (w.heap.size + 1 + 1) t k n p L v fs W2 R2.out O2.out (by have := HML.out; omega) (by omega) R2.out.lt HLN.out (by omega) hp hs hn hk2 (M.ml_below HG.out.1 B2w.out)
        have ea : k * 512 + 512 = (k + 1) * 512 := by omega
        rw [ea] at hrd
        obtain ⟨st, hst2⟩ : ∃ st, st = M.stepL M.recI L (M.cutL t.data.toList ((k + 1) * 512) n) ⟨p.data.toList, fs⟩ := ⟨_, rfl⟩
        rw [← hst2] at hrd CP
        have HSt : Hid (st.path.length ≤ 20000 ∧ st.out.length ≤ k + 1 ∧ ∀ f ∈ st.out, M.fok f) := by
          have hcl : (M.cutL t.data.toList ((k + 1) * 512) n).length ≤ 20000 := by
            unfold M.cutL
            rw [List.length_take]; omega
          show _ ∧ _ ∧ _
          rw [hst2]
          unfold M.stepL
          split
          · exact ⟨Nat.le_trans (M.recI_len _) hcl, Nat.le_succ_of_le hfl, HFk.out⟩
          · refine ⟨Nat.zero_le _, by simp; omega, fun f hf => ?_⟩
            rcases List.mem_append.1 hf with h | h
            · exact HFk.out f h
            · rw [List.mem_singleton] at h
              rw [h]
              exact M.fok_fileL (by omega) (by rw [← Lib.size_eq]; omega)
        obtain ⟨k', hk'⟩ : ∃ k', k' = k + 1 + (n + 511) / 512 := ⟨_, rfl⟩
        rw [← hk'] at CP
        have hkk : k * 512 + 512 + (n + 511) / 512 * 512 = k' * 512 := by omega
        have hkk2 : (k + 1) * 512 + (n + 511) / 512 * 512 = k' * 512 := by omega
        rw [hkk] at hlen
        rw [hkk2] at hrd
        have hlt : k + 1 ≤ k' := by omega
        have HRd2 : Hid (M.readL M.recI t.data.toList fu (k' * 512) ⟨st.path, st.out⟩ = R) := hrd.symm
        have HFu2 : Hid (t.size + 512 ≤ k' * 512 + fu * 512) := by have := HFu.out; show _ ≤ _; omega
        have HCP := M.hidp CP
        clear CP hrd hst2 hk' hkk hkk2 ea hn hs0 hLc S2 S3 hzz hk2
        go_wp2_with (refine wpList_load_row rfl 43 _ rfl w1.heap.size rfl _ _ _ _ X2.out Tryz.underlying43 rfl (by rw [HI.out]; simp [HLN.out]) ?_)
        refine HCP.out.mono ?_
        rintro e w9 ⟨rfl, p', v', hp', r9, o9, k9⟩
        have hp2 : p'.size ≤ 20000 := by rw [Lib.size_eq, hp']; exact HSt.out.1
        have HR9 : Hid (M.readL M.recI t.data.toList fu (k' * 512) ⟨p'.data.toList, st.out⟩ = R) := by show _ = _; rw [hp']; exact HRd2.out
        have B9 : Hid (Below (w.alloc (.cells #[.slice none 0 0, .int .i64 0, .int .i64 0] 24)).heap.size (w.alloc (.cells #[.slice none 0 0, .int .i64 0, .int .i64 0] 24)) w9) := k9 _ _ (by simp) B2.out
        have R9 := M.hidp r9
        have O9 := M.hidp o9
        have HA9 : Hid (M.at1 w9 (w.heap.size + 1) = k') := r9.at1
        clear hp' r9 o9 k9 HRd2 hst' hq
        go_wp2
        go_roundw
        case rel => exact ⟨k', fu, p', v', st.out, hlen, hp2, by have := HSt.out.2.1; omega, HR9, HFu2, HSt.out.2.2, R9, O9, B9⟩
        case measure => rw [HA1.out, HA9.out]; omega
end Go.Proofs.YthiojdemcaaihaaGreatDoor
