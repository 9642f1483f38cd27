/-
  What Unpack of the program does.
-/
import Derived.Test.YtephjmlcbpfnaaaGreatDoorPart22
import Derived.Test.YtephjmlcbpfnaaaGreatDoorSUnpack
import Derived.Test.YtephjmlcbpfnaaaGreatDoorPart19
import Derived.Test.YtephjmlcbpfnaaaGreatDoorPart16
import Derived.Test.YtephjmlcbpfnaaaGreatDoorIDeltaB
import Derived.Test.YtephjmlcbpfnaaaGreatDoorPart5
import Derived.Test.YtephjmlcbpfnaaaGreatDoorPart14
import Derived.Deep.RegionWith
namespace Go.Proofs.YtephjmlcbpfnaaaGreatDoor
open Go.RowKit

set_option maxRecDepth 100000 in
theorem iHHere_any (g : Nat) (t : ByteArray) (k : Nat) (w : World) (H : M.Cur w g t k) (ht : t.size ≤ 20000) (hk : k * 512 ≤ 20000) (hz : M.tz w) :
    Calls Tryz.prog 82 #[.pointer (some ⟨g, 0, none⟩)] w fun e w' => e = .returned (.tuple #[.agg ((M.hdrL t.data.toList (k * 512)).map M.u8).toArray, M.errI (M.hdrC t.data.toList (k * 512))]) ∧ Below w.heap.size w w' := by
  by_cases h : t.size < k * 512 + 512
  · have e1 : M.hdrL t.data.toList (k * 512) = List.replicate 512 0 := by unfold M.hdrL; rw [if_pos (by rw [← Lib.size_eq]; exact h)]
    have e2 : M.hdrC t.data.toList (k * 512) = 4 := by unfold M.hdrC; rw [if_pos (by rw [← Lib.size_eq]; exact h)]
    rw [e1, e2]
    exact iHHere_short g t k w H ht hk h (fun W hW => iLeft_any g t k W hW (by omega) (by omega))
  · exact iHHere_long g t k w H ht (by omega) (fun W hW => iLeft_any g t k W hW (by omega) (by omega)) (fun W hW => iHere_any g t k 512 W hW (by omega) (by omega))
      (fun b L W hL hA => iField_any b L 148 8 W hL (by decide) (by decide) hA) (fun b L W hL hA hb => iSumT_any b L W hL hA (hz.below hb)) (fun b L W hL hA => iHSize_any b L W hL hA) (fun n W hn => iBlocks_any n W hn)

/-- A step of the reading, told by what the program looks at. -/
theorem M.readL_hdr (p : List UInt8 → List UInt8) (t : List UInt8) (fuel a : Nat) (st : M.St) :
    (M.hdrC t a ≠ 0 → M.readL p t (fuel + 1) a st = M.Rd.ill (M.hdrC t a) (a / 512)) ∧
    (M.hdrC t a = 0 → M.hdrL t a = List.replicate 512 0 → M.readL p t (fuel + 1) a st = M.Rd.fin st.out) ∧
    (M.hdrC t a = 0 → ¬ M.hdrL t a = List.replicate 512 0 → M.hdrL t a = M.cutL t a 512 ∧ 0 ≤ M.sizeL (M.hdrL t a) ∧ a + 512 + M.blk (M.sizeL (M.hdrL t a)).toNat * 512 ≤ t.length ∧
      M.readL p t (fuel + 1) a st = M.readL p t fuel (a + 512 + M.blk (M.sizeL (M.hdrL t a)).toNat * 512) (M.stepL p (M.hdrL t a) (M.cutL t (a + 512) (M.sizeL (M.hdrL t a)).toNat) st)) := by
  unfold M.hdrC M.hdrL
  rw [M.readL]
  by_cases h1 : t.length < a + 512
  · simp only [if_pos h1]
    exact ⟨fun _ => by trivial, fun h => absurd h (by decide), fun h => absurd h (by decide)⟩
  simp only [if_neg h1]
  by_cases h2 : M.cutL t a 512 = List.replicate 512 0
  · simp only [if_pos h2]
    exact ⟨fun h => absurd rfl h, fun _ _ => by trivial, fun _ h => absurd h2 h⟩
  simp only [if_neg h2]
  by_cases h3 : M.sumOkL (M.cutL t a 512) = false
  · simp only [if_pos h3]
    exact ⟨fun _ => by trivial, fun h => absurd h (by decide), fun h => absurd h (by decide)⟩
  simp only [if_neg h3]
  by_cases h4 : M.sizeL (M.cutL t a 512) < 0
  · simp only [if_pos h4]
    exact ⟨fun _ => by trivial, fun h => absurd h (by decide), fun h => absurd h (by decide)⟩
  simp only [if_neg h4]
  by_cases h5 : t.length < a + 512 + M.blk (M.sizeL (M.cutL t a 512)).toNat * 512
  · simp only [if_pos h5]
    exact ⟨fun _ => by trivial, fun h => absurd h (by decide), fun h => absurd h (by decide)⟩
  simp only [if_neg h5]
  exact ⟨fun h => absurd rfl h, fun _ h => absurd h h2, fun _ _ => ⟨by trivial, by omega, by omega, by trivial⟩⟩
theorem M.recI_len (l : List UInt8) : (M.recI l).length ≤ l.length := by
  have h1 := M.cut_len l M.keyL
  unfold M.recI Lib.trimSuffix
  split
  · rw [List.length_take]; omega
  · exact h1
/-- The place at which a reader stands. -/
def M.at1 (w : World) (g : Nat) : Nat := match w.cell? ⟨g, 1, none⟩ with | some (.int .i64 k) => k.toNat | _ => 0
theorem M.Rdr.at1 {w : World} {g : Nat} {t : ByteArray} {k : Nat} {p : ByteArray} {v : Value} (H : M.Rdr w g t k p v) : M.at1 w g = k := by unfold M.at1; rw [H.c1]; rfl
/-- What Unpack answers: a list of files in memory of its own, a place, a code. -/
def M.PaxOwn (w' : World) (base : Nat) (e : Ending) (r : Int × Nat × List M.FileD) : Prop :=
  ∃ v, e = .returned (.agg #[v, .int .i64 (r.2.1 : Int), .int .i64 r.1]) ∧ M.Own w' base 54 v r.2.2
theorem M.own_nil (w : World) (base : Nat) (T : TypeId) : M.Own w base T (.slice none 0 0) [] := ⟨rfl, .inl ⟨rfl, rfl⟩⟩
theorem M.paxIllO (w : World) (base : Nat) (c : Int) (a : Nat) : M.PaxOwn w base (.returned (.agg #[.slice none 0 0, .int .i64 (a : Int), .int .i64 c])) (c, a, []) := ⟨_, rfl, M.own_nil _ _ _⟩
theorem M.Own.down {w : World} {b b' : Nat} {T : TypeId} {v : Value} {gs : List M.FileD} (h : M.Own w b T v gs) (hb : b' ≤ b) : M.Own w b' T v gs := by
  obtain ⟨hl, h0 | ⟨g, cap, cur, hv, hg, hr⟩⟩ := h
  · exact ⟨hl, .inl h0⟩
  · exact ⟨hl, .inr ⟨g, cap, cur, hv, Nat.le_trans hb hg, hr⟩⟩

theorem M.boxed_free {w w1 : World} {T : TypeId} {vs : Array Value} (hb : Below (w.alloc (.cells vs T)).heap.size (w.alloc (.cells vs T)) w1) : ∀ j, w1.frozen? ⟨w.heap.size, j, none⟩ = false := fun j => by
  rw [hb.frozen (p := ⟨w.heap.size, j, none⟩) (by simp)]; exact World.frozen?_alloc_new _ _ _ _

set_option maxRecDepth 100000 in
set_option maxHeartbeats 400000 in
theorem iUnpack_long (t : ByteArray) (w : World) (hs : t.size ≤ maxLen) (h : 20000 < t.size) :
    Calls Tryz.prog 46 #[.string t] w fun e w' => e = .returned (.agg #[.slice none 0 0, .int .i64 0, .int .i64 2]) ∧ Below w.heap.size w w' := by
  unfold maxLen at hs
  go_enter Tryz.func46, Tryz.ntmps46
  go_wp2
  exact bodyPost_ret (v := .agg #[.slice none 0 0, .int .i64 0, .int .i64 2]) (by simp [results, Tryz.results46, go_sem]) rfl ⟨rfl, (Below.refl _ _).alloc (Nat.le_refl _) _⟩

set_option maxRecDepth 100000 in
set_option maxHeartbeats 1600000 in
theorem iUnpack_any (t : ByteArray) (w : World) (hs : t.size ≤ 20000) (hm : M.ml w) (hw : M.pw w) (htz : M.tz w) (hg : M.errT w) :
    Calls Tryz.prog 46 #[.string t] w fun e w' => M.PaxOwn w' w.heap.size e (M.outL M.recI t.data.toList) ∧ Below w.heap.size w w' := by
  have htl : t.data.toList.length = t.size := by rw [← Lib.size_eq]
  have HTL : Hid (t.data.toList.length = t.size) := htl
  obtain ⟨R, hR⟩ : ∃ R, R = M.readL M.recI t.data.toList (M.fuelL t.data.toList) 0 ⟨[], []⟩ := ⟨_, rfl⟩
  have HOI : Hid (∀ c a, R = M.Rd.ill c a → M.outL M.recI t.data.toList = (c, a, [])) := fun c a h => by unfold M.outL; rw [← hR, h]
  have HOF : Hid (∀ fs, R = M.Rd.fin fs → M.outL M.recI t.data.toList = if (M.packB fs).data.toList = t.data.toList then (0, 0, fs) else (3, 0, [])) := fun fs h => by unfold M.outL; rw [← hR, h]
  have HST : Hid (R = M.readL M.recI t.data.toList (M.fuelL t.data.toList) 0 ⟨[], []⟩) := hR
  have HG : Hid (M.ml w ∧ M.pw w ∧ M.tz w ∧ M.errT w) := ⟨hm, hw, htz, hg⟩
  have hzr := (zero_of_info Tryz.infoH).1
  have HI : Hid ((Tryz.prog.info? 113).map (·.size) = some 512) := (zero_of_info Tryz.infoH).2
  have hgd := Tryz.guardH
  have d0 : decide (20000 < (t.size : Int)) = false := decide_eq_false (by omega)
  have HML : Hid (0 < w.heap.size) := by obtain ⟨m, hm'⟩ := hm; exact World.block_lt_of_cell? w _ hm'
  clear hR htl hm hw htz hg
  go_enter Tryz.func46, Tryz.ntmps46
  go_wp2
  go_loopw [4] (fun _ wr => ∃ (k fuel : Nat) (p : ByteArray) (v : Value) (fs : List M.FileD), k * 512 ≤ t.size ∧ p.size ≤ 20000 ∧ fs.length ≤ k ∧ Hid (M.readL M.recI t.data.toList fuel (k * 512) ⟨p.data.toList, fs⟩ = R) ∧ Hid (t.size + 512 ≤ k * 512 + fuel * 512) ∧ Hid (∀ f ∈ fs, M.fok f)
    ∧ Hid (M.Rdr wr (w.heap.size + 1) t k p v) ∧ Hid (M.Own wr (w.heap.size + 1 + 1) 54 v fs) ∧ Hid (Below (w.alloc (.cells #[.slice none 0 0, .int .i64 0, .int .i64 0] 70)).heap.size (w.alloc (.cells #[.slice none 0 0, .int .i64 0, .int .i64 0] 70)) wr)) (fun _ wr => t.size + 1 - M.at1 wr (w.heap.size + 1) * 512)
  case atStart =>
    refine ⟨0, M.fuelL t.data.toList, ⟨#[]⟩, .slice none 0 0, [], by omega, by decide, Nat.le_refl _, (show M.readL M.recI t.data.toList (M.fuelL t.data.toList) 0 ⟨[], []⟩ = R from HST.out.symm), ?_, (fun f hf => absurd hf List.not_mem_nil), ⟨?_, ?_, ?_, ?_, ?_⟩, M.own_nil _ _ _, (Below.refl _ _).alloc (Nat.le_refl _) _⟩
    · show _ ≤ _
      unfold M.fuelL
      rw [HTL.out]
      omega
    · rw [World.cell?_alloc_at _ _ _ _ (by simp)]; rfl
    · rw [World.cell?_alloc_at _ _ _ _ (by simp)]; rfl
    · rw [World.cell?_alloc_at _ _ _ _ (by simp)]; rfl
    · rw [World.cell?_alloc_at _ _ _ _ (by simp)]; rfl
    · intro j
      unfold World.frozen?
      rw [heap_alloc2_new]
      simp
  case round =>
    obtain ⟨k, fuel, p, v, fs, hk, hp, hfl, HRd, HFu, HFk, HRr, HOw, HBr⟩ := hrel
    obtain ⟨fu, rfl⟩ : ∃ fu, fuel = fu + 1 := ⟨fuel - 1, by have := HFu.out; omega⟩
    obtain ⟨s1, s2, s3⟩ := M.readL_hdr M.recI t.data.toList fu (k * 512) ⟨p.data.toList, fs⟩
    rw [HRd.out, Nat.mul_div_cancel k (by decide)] at s1
    rw [HRd.out] at s2 s3
    rw [HTL.out] at s3
    have HBw : Hid (Below w.heap.size w wr) := M.boxed_below HBr.out
    have CH := iHHere_any (w.heap.size + 1) t k wr HRr.out.cur hs (by omega) (HG.out.2.2.1.below HBw.out)
    have hLl := M.hdrL_len t.data.toList (k * 512)
    generalize M.hdrL t.data.toList (k * 512) = L at *
    generalize M.hdrC t.data.toList (k * 512) = c at *
    have HLN := M.hidp hLl
    have HCH := M.hidp CH
    have S2 := M.hidp s2
    have S3 := M.hidp s3
    clear CH hLl s2 s3 HRd
    by_cases hc : c = 0
    case neg =>
      have HE : Hid (M.outL M.recI t.data.toList = (c, k, [])) := HOI.out _ _ (s1 hc)
      have hV : M.errI c = .iface 105 (.agg #[.int .i64 c]) := by unfold M.errI; rw [if_neg hc]
      rw [hV] at HCH
      clear hV s1 S2 S3
      go_wp2_with fail
      refine HCH.out.mono ?_
      rintro e w1 ⟨rfl, hb1⟩
      obtain ⟨W2, hst, H2, hB2⟩ := M.Arr.store (P := Tryz.prog) (M.arr_made w1 113 (List.replicate 512 0)) L (by rw [List.length_replicate]; exact HLN.out.symm)
      have hst' : (storeCells ⟨w1.heap.size, 0, none⟩ (L.map M.u8)).run Tryz.prog (w1.alloc (.cells M.zer 113)) = .ok () W2 := hst
      have hb2 : Below w1.heap.size w1 W2 := hB2 _ _ (Nat.le_refl _) ((Below.refl _ _).alloc (Nat.le_refl _) _)
      have B2 : Hid (Below (w.alloc (.cells #[.slice none 0 0, .int .i64 0, .int .i64 0] 70)).heap.size (w.alloc (.cells #[.slice none 0 0, .int .i64 0, .int .i64 0] 70)) W2) := M.s1' (M.s1' HBr.out hb1) hb2
      have R2 := M.hidp ((HRr.out.below hb1).below hb2)
      have E2 : Hid (M.errT W2) := M.errT_below HG.out.2.2.2 (M.boxed_below B2.out)
      clear hst H2 hB2 hb1 hb2 HCH HOw HRr
      have r1 := R2.out.c1
      go_wp2_with fail
      go_region_with (go_at_call 83; refine (codeOf_hit c _ (M.errT_below E2.out (Below.refl _ _).drew)).mono ?_; rintro e w3 ⟨rfl, hb3⟩; have hb3' := M.s1' (M.s1' B2.out (Below.refl _ _).drew) hb3; have q1 : w3.cell? ⟨w.heap.size + 1, 1, none⟩ = some (.int .i64 k) := ((R2.out.below (Below.refl _ _).drew).below hb3).c1; have g0 := M.boxed hb3' 0 _ rfl; have g1 := M.boxed hb3' 1 _ rfl; have g2 := M.boxed hb3' 2 _ rfl; have f0 := M.boxed_free hb3'; have B3 : Hid (Below w.heap.size w w3) := M.boxed_below hb3'; clear hb3 hb3')
      all_goals
        go_wp2
        exact bodyPost_ret (v := .agg #[.slice none 0 0, .int .i64 (k : Int), .int .i64 c]) (by simp [results, Tryz.results46, go_sem, g0, g1, g2]) rfl ⟨by rw [HE.out]; exact M.paxIllO _ _ _ _, ((B3.out.setCell (Nat.le_refl _) _).setCell (Nat.le_refl _) _).setCell (Nat.le_refl _) _⟩
    case pos =>
      subst hc
      have hV : M.errI 0 = .nilIface := rfl
      rw [hV] at HCH
      clear hV s1
      go_wp2_with fail
      refine HCH.out.mono ?_
      rintro e w1 ⟨rfl, hb1⟩
      obtain ⟨W2, hst, H2, hB2⟩ := M.Arr.store (P := Tryz.prog) (M.arr_made w1 113 (List.replicate 512 0)) L (by rw [List.length_replicate]; exact HLN.out.symm)
      have hst' : (storeCells ⟨w1.heap.size, 0, none⟩ (L.map M.u8)).run Tryz.prog (w1.alloc (.cells M.zer 113)) = .ok () W2 := hst
      have hb2 : Below w1.heap.size w1 W2 := hB2 _ _ (Nat.le_refl _) ((Below.refl _ _).alloc (Nat.le_refl _) _)
      have B2 : Hid (Below (w.alloc (.cells #[.slice none 0 0, .int .i64 0, .int .i64 0] 70)).heap.size (w.alloc (.cells #[.slice none 0 0, .int .i64 0, .int .i64 0] 70)) W2) := M.s1' (M.s1' HBr.out hb1) hb2
      have B2w : Hid (Below w.heap.size w W2) := M.boxed_below B2.out
      have R2 := M.hidp ((HRr.out.below hb1).below hb2)
      have O2 := M.hidp ((HOw.out.below hb1).below hb2)
      have X2 := M.hidp H2
      have HA1 : Hid (M.at1 wr (w.heap.size + 1) = k) := HRr.out.at1
      clear hst H2 hB2 hb1 hb2 HCH HOw HRr HBr HBw
      have hq : ∀ W, (binOp .eql 113 (.agg (L.map M.u8).toArray) (.agg M.zer)).run Tryz.prog W = .ok (.bool (decide (L = List.replicate 512 0))) W := fun W => M.hdr_eq L (List.replicate 512 0) HLN.out List.length_replicate W
      by_cases hzz : L = List.replicate 512 0
      · have HE0 := HOF.out fs (S2.out trivial hzz)
        rw [decide_eq_true hzz] at hq
        clear hzz S2 S3
        obtain ⟨av, cap, hv, hfil⟩ := O2.out.files
        subst hv
        have HFi := M.hidp hfil
        obtain ⟨y, hye⟩ : ∃ y, y = M.packB fs := ⟨_, rfl⟩
        have CP : Hid (Calls Tryz.prog 41 #[.slice av fs.length cap] W2 fun e w' => e = .returned (.string y) ∧ Below W2.heap.size W2 w') := by rw [hye]; exact iPack_any W2 av fs.length cap fs hfil HFk.out (M.ml_below HG.out.1 B2w.out) (HG.out.2.1.below B2w.out) (HG.out.2.2.1.below B2w.out)
        rw [← hye] at HE0
        have r3 := R2.out.c3
        clear hfil hye
        go_wp2_with (refine wpList_load_row rfl 113 _ rfl w1.heap.size rfl _ _ _ _ X2.out Tryz.underlying113 rfl (by rw [HI.out]; simp [HLN.out]) ?_)
        refine CP.out.mono ?_
        rintro e w3 ⟨rfl, hb3⟩
        have hb3' := M.s1' B2.out hb3
        have g0 := M.boxed hb3' 0 _ rfl
        have g1 := M.boxed hb3' 1 _ rfl
        have g2 := M.boxed hb3' 2 _ rfl
        have f0 := M.boxed_free hb3'
        have B3 : Hid (Below w.heap.size w w3) := M.boxed_below hb3'
        have R3 := M.hidp (R2.out.below hb3)
        have O3 := M.hidp (O2.out.below hb3)
        have q3 := R3.out.c3
        clear hb3 hb3' r3 hst' hq
        by_cases h3 : y.data.toList = t.data.toList
        · rw [if_pos h3] at HE0
          have HE : Hid (M.outL M.recI t.data.toList = (0, 0, fs)) := HE0
          have e3 : (y.toList != t.toList) = false := by rw [bne_eq_false_iff_eq, ByteArray.toList_eq, ByteArray.toList_eq]; exact h3
          have e3' : (y.toList == t.toList) = true := by rw [beq_iff_eq, ByteArray.toList_eq, ByteArray.toList_eq]; exact h3
          have HOO : Hid (∀ v0 v1 v2, M.Own (((w3.setCell ⟨w.heap.size, 0, none⟩ v0).setCell ⟨w.heap.size, 1, none⟩ v1).setCell ⟨w.heap.size, 2, none⟩ v2) w.heap.size 54 (.slice av fs.length cap) fs) := fun v0 v1 v2 =>
            M.Own.down (ownsRow_setCell_below (ownsRow_setCell_below (ownsRow_setCell_below O3.out (a := ⟨w.heap.size, 0, none⟩) (Nat.lt_succ_of_lt (Nat.lt_succ_self _)) v0) (a := ⟨w.heap.size, 1, none⟩) (Nat.lt_succ_of_lt (Nat.lt_succ_self _)) v1) (a := ⟨w.heap.size, 2, none⟩) (Nat.lt_succ_of_lt (Nat.lt_succ_self _)) v2) (by omega)
          clear HE0 h3
          go_wp2
          exact bodyPost_ret (v := .agg #[.slice av fs.length cap, .int .i64 0, .int .i64 0]) (by simp [results, Tryz.results46, go_sem, g0, g1, g2]) rfl ⟨by rw [HE.out]; exact ⟨_, rfl, HOO.out _ _ _⟩, ((B3.out.setCell (Nat.le_refl _) _).setCell (Nat.le_refl _) _).setCell (Nat.le_refl _) _⟩
        · rw [if_neg h3] at HE0
          have HE : Hid (M.outL M.recI t.data.toList = (3, 0, [])) := HE0
          have e3 : (y.toList != t.toList) = true := by rw [bne_iff_ne, ByteArray.toList_eq, ByteArray.toList_eq]; exact h3
          have e3' : (y.toList == t.toList) = false := by rw [beq_eq_false_iff_ne, ByteArray.toList_eq, ByteArray.toList_eq]; exact h3
          clear HE0 h3
          go_wp2
          exact bodyPost_ret (v := .agg #[.slice none 0 0, .int .i64 0, .int .i64 3]) (by simp [results, Tryz.results46, go_sem, g0, g1, g2]) rfl ⟨by rw [HE.out]; exact M.paxIllO _ _ _ _, ((B3.out.setCell (Nat.le_refl _) _).setCell (Nat.le_refl _) _).setCell (Nat.le_refl _) _⟩
      · obtain ⟨hLc, hs0, hlen, hrd⟩ := S3.out trivial hzz
        rw [decide_eq_false hzz] at hq
        obtain ⟨n, hn⟩ : ∃ n : Nat, M.sizeL L = n := ⟨(M.sizeL L).toNat, by omega⟩
        rw [hn, Int.toNat_natCast] at hlen hrd
        unfold M.blk at hlen hrd
        have hk2 : (k + 1) * 512 + n ≤ t.size := by omega
        have CP := iPass_any (w.heap.size + 1) (w.heap.size + 1 + 1) t k n p L v fs W2 R2.out O2.out (by have := HML.out; omega) (by omega) R2.out.lt HLN.out (by omega) hp hs hn hk2 (M.ml_below HG.out.1 B2w.out)
        have ea : k * 512 + 512 = (k + 1) * 512 := by omega
        rw [ea] at hrd
        obtain ⟨st, hst2⟩ : ∃ st, st = M.stepL M.recI L (M.cutL t.data.toList ((k + 1) * 512) n) ⟨p.data.toList, fs⟩ := ⟨_, rfl⟩
        rw [← hst2] at hrd CP
        have HSt : Hid (st.path.length ≤ 20000 ∧ st.out.length ≤ k + 1 ∧ ∀ f ∈ st.out, M.fok f) := by
          have hcl : (M.cutL t.data.toList ((k + 1) * 512) n).length ≤ 20000 := by
            unfold M.cutL
            rw [List.length_take]; omega
          show _ ∧ _ ∧ _
          rw [hst2]
          unfold M.stepL
          split
          · exact ⟨Nat.le_trans (M.recI_len _) hcl, Nat.le_succ_of_le hfl, HFk.out⟩
          · refine ⟨Nat.zero_le _, by simp; omega, fun f hf => ?_⟩
            rcases List.mem_append.1 hf with h | h
            · exact HFk.out f h
            · rw [List.mem_singleton] at h
              rw [h]
              exact M.fok_fileL (by omega) (by rw [← Lib.size_eq]; omega)
        obtain ⟨k', hk'⟩ : ∃ k', k' = k + 1 + (n + 511) / 512 := ⟨_, rfl⟩
        rw [← hk'] at CP
        have hkk : k * 512 + 512 + (n + 511) / 512 * 512 = k' * 512 := by omega
        have hkk2 : (k + 1) * 512 + (n + 511) / 512 * 512 = k' * 512 := by omega
        rw [hkk] at hlen
        rw [hkk2] at hrd
        have hlt : k + 1 ≤ k' := by omega
        have HRd2 : Hid (M.readL M.recI t.data.toList fu (k' * 512) ⟨st.path, st.out⟩ = R) := hrd.symm
        have HFu2 : Hid (t.size + 512 ≤ k' * 512 + fu * 512) := by have := HFu.out; show _ ≤ _; omega
        have HCP := M.hidp CP
        clear CP hrd hst2 hk' hkk hkk2 ea hn hs0 hLc S2 S3 hzz hk2
        go_wp2_with (refine wpList_load_row rfl 113 _ rfl w1.heap.size rfl _ _ _ _ X2.out Tryz.underlying113 rfl (by rw [HI.out]; simp [HLN.out]) ?_)
        refine HCP.out.mono ?_
        rintro e w9 ⟨rfl, p', v', hp', r9, o9, k9⟩
        have hp2 : p'.size ≤ 20000 := by rw [Lib.size_eq, hp']; exact HSt.out.1
        have HR9 : Hid (M.readL M.recI t.data.toList fu (k' * 512) ⟨p'.data.toList, st.out⟩ = R) := by show _ = _; rw [hp']; exact HRd2.out
        have B9 : Hid (Below (w.alloc (.cells #[.slice none 0 0, .int .i64 0, .int .i64 0] 70)).heap.size (w.alloc (.cells #[.slice none 0 0, .int .i64 0, .int .i64 0] 70)) w9) := k9 _ _ (by simp) B2.out
        have R9 := M.hidp r9
        have O9 := M.hidp o9
        have HA9 : Hid (M.at1 w9 (w.heap.size + 1) = k') := r9.at1
        clear hp' r9 o9 k9 HRd2 hst' hq
        go_wp2
        go_roundw
        case rel => exact ⟨k', fu, p', v', st.out, hlen, hp2, by have := HSt.out.2.1; omega, HR9, HFu2, HSt.out.2.2, R9, O9, B9⟩
        case measure => rw [HA1.out, HA9.out]; omega
end Go.Proofs.YtephjmlcbpfnaaaGreatDoor

/-
  What DeltaRead of the program does.
-/
namespace Go.Proofs.YtephjmlcbpfnaaaGreatDoor
open Go.RowKit

theorem M.fileR_fok {f : M.FileD} (h : M.fileR f = true) : M.fok f := by
  unfold M.fileR at h
  simp only [Bool.and_eq_true, decide_eq_true_eq] at h
  obtain ⟨⟨⟨⟨h1, h2⟩, h3⟩, h4⟩, -⟩ := h
  have hp := M.pathR_size h1
  unfold M.fok maxLen
  omega
theorem M.outL_fok {p : List UInt8 → List UInt8} {t : List UInt8} : ∀ f ∈ (M.outL p t).2.2, M.fok f := by
  by_cases h : (M.outL p t).1 = 0
  · obtain ⟨h1, h2⟩ := M.outL_ok h
    generalize (M.outL p t).2.2 = fs at *
    unfold M.packB at h1
    split at h1
    · next hc => exact fun f hf => M.fileR_fok (List.all_eq_true.1 hc.2.1 f hf)
    · exact absurd h1.symm h2
  · rw [M.outL_ill h]
    intro f hf
    cases hf
/-- What DeltaRead tells of a text of at most 20,000 bytes. -/
def M.ReadOut (s : ByteArray) (c : Int) (ss : List ByteArray) (fs : List M.FileD) : Prop :=
  (c = 3 ∧ ss = [] ∧ fs = [] ∧ ∀ ss' a, M.headT s = some (ss', a) → ¬ ((M.outL M.recI (s.data.toList.drop a)).1 = 0 ∧ M.DeltaR ss' (M.outL M.recI (s.data.toList.drop a)).2.2))
  ∨ (c = 0 ∧ ∃ a, M.headT s = some (ss, a) ∧ (M.outL M.recI (s.data.toList.drop a)).1 = 0 ∧ fs = (M.outL M.recI (s.data.toList.drop a)).2.2 ∧ M.DeltaR ss fs)
theorem M.ReadOut.same {s : ByteArray} {c c' : Int} {ss ss' : List ByteArray} {fs fs' : List M.FileD} (h : M.ReadOut s c ss fs) (h' : M.ReadOut s c' ss' fs') : c = c' ∧ ss = ss' ∧ fs = fs' := by
  rcases h with ⟨rfl, rfl, rfl, h⟩ | ⟨rfl, a, h1, h2, rfl, h3⟩
  · rcases h' with ⟨rfl, rfl, rfl, -⟩ | ⟨rfl, a, h1, h2, rfl, h3⟩
    · exact ⟨rfl, rfl, rfl⟩
    · exact absurd ⟨h2, h3⟩ (h _ _ h1)
  · rcases h' with ⟨rfl, rfl, rfl, h⟩ | ⟨rfl, b, k1, k2, rfl, k3⟩
    · exact absurd ⟨h2, h3⟩ (h _ _ h1)
    · rw [h1] at k1
      cases k1
      exact ⟨rfl, rfl, rfl⟩
/-- The answer owns its rows. -/
def M.ReadOwn (s : ByteArray) (base : Nat) (e : Ending) (w' : World) : Prop :=
  ∃ (v1 v2 : Value) (c : Int) (ss : List ByteArray) (fs : List M.FileD), e = .returned (.agg #[v1, v2, .int .i64 c]) ∧ M.ReadOut s c ss fs ∧ M.OwnS w' base v1 ss ∧ M.Own w' base 54 v2 fs
theorem M.OwnS.down {w : World} {b b' : Nat} {v : Value} {ss : List ByteArray} (h : M.OwnS w b v ss) (hb : b' ≤ b) : M.OwnS w b' v ss := by
  obtain ⟨hl, h0 | ⟨g, cap, cur, hv, hg, hr⟩⟩ := h
  · exact ⟨hl, .inl h0⟩
  · exact ⟨hl, .inr ⟨g, cap, cur, hv, Nat.le_trans hb hg, hr⟩⟩

theorem Tryz.fieldPax (a : Option Addr) (n c : Nat) (x y : Int) (W : World) : (Instr.field 70 (.agg #[.slice a n c, .int .i64 x, .int .i64 y]) 0).run Tryz.prog W = .ok (.slice a n c) W := by kernel_rfl

set_option maxRecDepth 100000 in
set_option maxHeartbeats 1600000 in
theorem iDRead_any (s : ByteArray) (w : World) (hs : s.size ≤ 20000) (hm : M.ml w) (hw : M.pw w) (htz : M.tz w) (hg : M.errT w) :
    Calls Tryz.prog 16 #[.string s] w fun e w' => M.ReadOwn s w.heap.size e w' ∧ Below w.heap.size w w' := by
  have HG : Hid (M.ml w ∧ M.pw w ∧ M.tz w ∧ M.errT w) := ⟨hm, hw, htz, hg⟩
  have d0 : decide (20000 < (s.size : Int)) = false := decide_eq_false (by omega)
  clear hm hw htz hg
  go_enter Tryz.func16, Tryz.ntmps16
  go_wp2_with fail
  refine (readDrops_any s _ hs).mono ?_
  rintro e w1 ⟨hD, hb1⟩
  have B1 := M.hide hb1
  have hz1 := hb1.size
  have g0 := M.boxed hb1 0 _ rfl
  have g1 := M.boxed hb1 1 _ rfl
  have g2 := M.boxed hb1 2 _ rfl
  have gf := M.boxed_free hb1
  clear hb1
  obtain ⟨hnone, c, hc, rfl⟩ | ⟨ss, a, v, hsome, rfl, hown⟩ := hD
  · have HN := M.hide hnone
    rw [M.errV_no hc]
    clear hnone
    go_wp2
    exact bodyPost_ret (v := .agg #[.slice none 0 0, .slice none 0 0, .int .i64 3]) (by simp [results, Tryz.results16, go_sem, g0, g1, g2]) rfl ⟨⟨_, _, 3, [], [], rfl, .inl ⟨rfl, rfl, rfl, fun ss' a h => by rw [HN.out] at h; cases h⟩, M.OwnS.nil _ _, M.own_nil _ _ _⟩, ((Below.setCell (M.boxed_below B1.out) (Nat.le_refl _) _).setCell (Nat.le_refl _) _).setCell (Nat.le_refl _) _⟩
  · have HH := M.hide hsome
    have HO := M.hide hown
    obtain ⟨-, ha, -, -, hts⟩ := M.headT_canon hsome
    have HTS := M.hide hts
    obtain ⟨x, hx⟩ : ∃ x, x = s.extract a s.size := ⟨_, rfl⟩
    have hxz : x.size ≤ 20000 := by rw [hx, ByteArray.size_extract]; omega
    have hxl : x.data.toList = s.data.toList.drop a := by
      rw [hx, Lib.extract_data]
      exact List.take_of_length_le (by rw [List.length_drop, ← Lib.size_eq]; exact Nat.le_refl _)
    have HXL := M.hide hxl
    have HX := M.hide hx
    have CU : Hid (∀ W, Below w.heap.size w W → Calls Tryz.prog 46 #[.string x] W fun e w' => M.PaxOwn w' W.heap.size e (M.outL M.recI (s.data.toList.drop a)) ∧ Below W.heap.size W w') := fun W hW => by
      rw [← hxl]
      exact iUnpack_any x W hxz (M.ml_below HG.out.1 hW) (HG.out.2.1.below hW) (HG.out.2.2.1.below hW) (M.errT_below HG.out.2.2.2 hW)
    clear hsome hown hts hx hxl hxz
    go_wp2_with fail
    rw [← HX.out]
    refine (CU.out _ (M.boxed_below B1.out)).mono ?_
    rintro e w2 ⟨⟨v2, rfl, hown2⟩, hb2⟩
    have B2 := M.hide (M.se B1.out hb2)
    have O1 : M.OwnS w2 (w.heap.size + 1) v ss := (HO.out.below hb2).down (by simp)
    have O2 : M.Own w2 (w.heap.size + 1) 54 v2 (M.outL M.recI (s.data.toList.drop a)).2.2 := hown2.down (Nat.le_trans (by simp) hz1)
    obtain ⟨r, hr⟩ : ∃ r : Bool, r = true ↔ M.DeltaR ss (M.outL M.recI (s.data.toList.drop a)).2.2 := by
      by_cases h : M.DeltaR ss (M.outL M.recI (s.data.toList.drop a)).2.2
      · exact ⟨true, by simp [h]⟩
      · exact ⟨false, by simp [h]⟩
    have hiff := M.read_iff (p := M.recI) M.recI_ok HH.out (r = true)
    have hfk := @M.outL_fok M.recI (s.data.toList.drop a)
    have hro : ∀ c' : Int, (c' = 0 ∧ (M.outL M.recI (s.data.toList.drop a)).1 = 0 ∧ r = true → M.ReadOut s c' ss (M.outL M.recI (s.data.toList.drop a)).2.2) ∧ (c' = 3 ∧ ¬ ((M.outL M.recI (s.data.toList.drop a)).1 = 0 ∧ r = true) → M.ReadOut s c' [] []) := fun c' => by
      refine ⟨fun h => .inr ⟨h.1, a, HH.out, h.2.1, rfl, hr.1 h.2.2⟩, fun h => .inl ⟨h.1, rfl, rfl, fun ss' b hb => ?_⟩⟩
      rw [HH.out] at hb
      cases hb
      rw [← hr]
      exact h.2
    clear hown2 g0 g1 g2 gf CU HO
    revert hr hiff hfk hro O2
    generalize (M.outL M.recI (s.data.toList.drop a)).2.2 = fs, (M.outL M.recI (s.data.toList.drop a)).1 = cx, (M.outL M.recI (s.data.toList.drop a)).2.1 = ax
    intro O2 hr hiff hfk hro
    obtain ⟨a1, c1, rfl, hS1⟩ := O1.strs
    obtain ⟨a2, c2, rfl, hF2⟩ := O2.files
    have HS1 := M.hide hS1
    have HF2 := M.hide hF2
    have HO1 := M.hide O1
    have HO2 := M.hide O2
    have HRI := M.hide hr
    have HIFF := M.hide hiff
    have HFK := M.hide hfk
    have HRO := M.hide hro
    have g0 := M.boxed B2.out 0 _ rfl
    have g1 := M.boxed B2.out 1 _ rfl
    have g2 := M.boxed B2.out 2 _ rfl
    have gf := M.boxed_free B2.out
    clear O1 O2 hS1 hF2 hr hiff hfk hro hb2
    have hfp := Tryz.fieldPax
    go_wp2_with fail
    have hA : Below w2.heap.size w2 (w2.alloc (.cells #[.slice a1 ss.length c1, .slice a2 fs.length c2] 29)) := (Below.refl _ _).alloc (Nat.le_refl _) _
    have B3 := M.se B2.out hA
    have B3w := M.boxed_below B3
    refine (iDeltaB_any _ a1 a2 ss.length c1 fs.length c2 ss fs (HS1.out.below hA) (HF2.out.below hA) (fun t ht => by have := HTS.out t ht; unfold maxLen; omega) HFK.out (M.ml_below HG.out.1 B3w) (HG.out.2.1.below B3w) (HG.out.2.2.1.below B3w) r HRI.out).mono ?_
    rintro e w4 ⟨rfl, hb4⟩
    have hiff := HIFF.out
    generalize (if r = true then M.bytesB ss fs else (⟨#[]⟩ : ByteArray)) = Y at *
    have HIF2 := M.hide hiff
    have B4 := M.hide (M.se B3 hb4)
    have B4w := M.hide (M.boxed_below B4.out)
    have O41 := M.hide ((HO1.out.below hA).below (hb4.mono (Nat.le_refl _)))
    have O42 := M.hide ((HO2.out.below hA).below (hb4.mono (Nat.le_refl _)))
    have k0 := M.boxed hb4 0 _ rfl
    have k1 := M.boxed hb4 1 _ rfl
    have m0 := M.boxed B4.out 0 _ rfl
    have m1 := M.boxed B4.out 1 _ rfl
    have m2 := M.boxed B4.out 2 _ rfl
    have mf := M.boxed_free B4.out
    clear hiff HIFF hb4 B3 B3w hA g0 g1 g2 gf
    cases hq : (Y.toList == s.toList)
    · have HC : Hid (¬ (cx = 0 ∧ r = true)) := fun h => by
        have := HIF2.out.2 h
        rw [this] at hq
        simp at hq
      go_wp2
      exact bodyPost_ret (v := .agg #[.slice none 0 0, .slice none 0 0, .int .i64 3]) (by simp [results, Tryz.results16, go_sem, m0, m1, m2]) rfl ⟨⟨_, _, 3, [], [], rfl, (HRO.out 3).2 ⟨rfl, HC.out⟩, M.OwnS.nil _ _, M.own_nil _ _ _⟩, ((Below.setCell B4w.out (Nat.le_refl _) _).setCell (Nat.le_refl _) _).setCell (Nat.le_refl _) _⟩
    · have HC : Hid (cx = 0 ∧ r = true) := HIF2.out.1 (M.bytes_eq (by simpa using hq))
      have HO1' : Hid (∀ v0 v1 v2, M.OwnS (((w4.setCell ⟨w.heap.size, 0, none⟩ v0).setCell ⟨w.heap.size, 1, none⟩ v1).setCell ⟨w.heap.size, 2, none⟩ v2) w.heap.size (.slice a1 ss.length c1) ss) := fun v0 v1 v2 =>
        M.OwnS.down (ownsRow_setCell_below (ownsRow_setCell_below (ownsRow_setCell_below O41.out (a := ⟨w.heap.size, 0, none⟩) (Nat.lt_succ_self _) v0) (a := ⟨w.heap.size, 1, none⟩) (Nat.lt_succ_self _) v1) (a := ⟨w.heap.size, 2, none⟩) (Nat.lt_succ_self _) v2) (Nat.le_succ _)
      have HO2' : Hid (∀ v0 v1 v2, M.Own (((w4.setCell ⟨w.heap.size, 0, none⟩ v0).setCell ⟨w.heap.size, 1, none⟩ v1).setCell ⟨w.heap.size, 2, none⟩ v2) w.heap.size 54 (.slice a2 fs.length c2) fs) := fun v0 v1 v2 =>
        M.Own.down (ownsRow_setCell_below (ownsRow_setCell_below (ownsRow_setCell_below O42.out (a := ⟨w.heap.size, 0, none⟩) (Nat.lt_succ_self _) v0) (a := ⟨w.heap.size, 1, none⟩) (Nat.lt_succ_self _) v1) (a := ⟨w.heap.size, 2, none⟩) (Nat.lt_succ_self _) v2) (Nat.le_succ _)
      clear O41 O42
      go_wp2
      exact bodyPost_ret (v := .agg #[.slice a1 ss.length c1, .slice a2 fs.length c2, .int .i64 0]) (by simp [results, Tryz.results16, go_sem, m0, m1, m2]) rfl ⟨⟨_, _, 0, ss, fs, rfl, (HRO.out 0).1 ⟨rfl, HC.out⟩, HO1'.out _ _ _, HO2'.out _ _ _⟩, ((Below.setCell B4w.out (Nat.le_refl _) _).setCell (Nat.le_refl _) _).setCell (Nat.le_refl _) _⟩
end Go.Proofs.YtephjmlcbpfnaaaGreatDoor

/-
  What l04Read of the specification does.
-/
namespace Go.Proofs.YtephjmlcbpfnaaaGreatDoor
open Go.RowKit

/-- The delta that is being read, in its block; nothing below has turned. -/
structure M.Ld (w : World) (v : Value) (ss : List ByteArray) (W : World) : Prop where
  r0 : W.cell? ⟨w.heap.size, 0, none⟩ = some (.slice none 0 0)
  r1 : W.cell? ⟨w.heap.size, 1, none⟩ = some (.slice none 0 0)
  rf : ∀ j, W.frozen? ⟨w.heap.size, j, none⟩ = false
  c0 : W.cell? ⟨w.heap.size + 1, 0, none⟩ = some v
  c1 : W.cell? ⟨w.heap.size + 1, 1, none⟩ = some (.slice none 0 0)
  cf : ∀ j, W.frozen? ⟨w.heap.size + 1, j, none⟩ = false
  own : M.OwnS W (w.heap.size + 2) v ss
  bel : Below w.heap.size w W
  rr : M.Row W w.heap.size 29 2
  cr : M.Row W (w.heap.size + 1) 29 2
theorem M.Ld.below {w W W' : World} {v : Value} {ss : List ByteArray} (h : M.Ld w v ss W) (hb : Below W.heap.size W W') : M.Ld w v ss W' := by
  have l0 := World.block_lt_of_cell? W _ h.r0
  have l1 := World.block_lt_of_cell? W _ h.c0
  have l0' : w.heap.size < W.heap.size := l0
  have l1' : w.heap.size + 1 < W.heap.size := l1
  refine ⟨(hb.cell (p := ⟨w.heap.size, 0, none⟩) l0').trans h.r0, (hb.cell (p := ⟨w.heap.size, 1, none⟩) l0').trans h.r1, fun j => by rw [hb.frozen (p := ⟨w.heap.size, j, none⟩) l0]; exact h.rf j, (hb.cell (p := ⟨w.heap.size + 1, 0, none⟩) l1').trans h.c0, (hb.cell (p := ⟨w.heap.size + 1, 1, none⟩) l1').trans h.c1, fun j => by rw [hb.frozen (p := ⟨w.heap.size + 1, j, none⟩) l1]; exact h.cf j, h.own.below hb, h.bel.trans (hb.mono h.bel.size), h.rr.of_block (hb.block _ l0'), h.cr.of_block (hb.block _ l1')⟩
theorem M.Ld.start (w : World) : M.Ld w (.slice none 0 0) [] ((w.alloc (.cells #[.slice none 0 0, .slice none 0 0] 29)).alloc (.cells #[.slice none 0 0, .slice none 0 0] 29)) := by
  have hb1 : Below w.heap.size w (w.alloc (.cells #[.slice none 0 0, .slice none 0 0] 29)) := (Below.refl _ _).alloc (Nat.le_refl _) _
  have hb2 : Below (w.alloc (.cells #[.slice none 0 0, .slice none 0 0] 29)).heap.size (w.alloc (.cells #[.slice none 0 0, .slice none 0 0] 29)) ((w.alloc (.cells #[.slice none 0 0, .slice none 0 0] 29)).alloc (.cells #[.slice none 0 0, .slice none 0 0] 29)) := (Below.refl _ _).alloc (Nat.le_refl _) _
  have hs : (w.alloc (.cells #[.slice none 0 0, .slice none 0 0] 29)).heap.size = w.heap.size + 1 := by simp
  have k0 := M.boxed (w := w.alloc (.cells #[.slice none 0 0, .slice none 0 0] 29)) (T := 29) (vs := #[.slice none 0 0, .slice none 0 0]) (Below.refl _ _) 0 _ rfl
  have k1 := M.boxed (w := w.alloc (.cells #[.slice none 0 0, .slice none 0 0] 29)) (T := 29) (vs := #[.slice none 0 0, .slice none 0 0]) (Below.refl _ _) 1 _ rfl
  have kf := M.boxed_free (w := w.alloc (.cells #[.slice none 0 0, .slice none 0 0] 29)) (T := 29) (vs := #[.slice none 0 0, .slice none 0 0]) (Below.refl _ _)
  rw [hs] at k0 k1 kf
  have q0 : M.Row (w.alloc (.cells #[.slice none 0 0, .slice none 0 0] 29)) w.heap.size 29 2 := ⟨_, heap_alloc_new _ _, rfl⟩
  have q1 : M.Row ((w.alloc (.cells #[.slice none 0 0, .slice none 0 0] 29)).alloc (.cells #[.slice none 0 0, .slice none 0 0] 29)) (w.alloc (.cells #[.slice none 0 0, .slice none 0 0] 29)).heap.size 29 2 := ⟨_, heap_alloc_new _ _, rfl⟩
  rw [hs] at q1
  exact ⟨M.boxed hb2 0 _ rfl, M.boxed hb2 1 _ rfl, M.boxed_free hb2, k0, k1, kf, M.OwnS.nil _ _, M.se hb1 hb2, q0.of_block (hb2.block _ q0.lt), q1⟩
theorem M.OwnS.setOther {W : World} {base : Nat} {v : Value} {ss : List ByteArray} (h : M.OwnS W base v ss) (H j : Nat) (u : Value) (hH : H < base) : M.OwnS (W.setCell ⟨H, j, none⟩ u) base v ss := by
  obtain ⟨hl, h0 | ⟨g, cap, cur, hv, hg, hh, hr⟩⟩ := h
  · exact ⟨hl, .inl h0⟩
  · exact ⟨hl, .inr ⟨g, cap, cur, hv, hg, by rw [Below.heap_setCell W ⟨H, j, none⟩ u g (by simp only; omega)]; exact hh, hr⟩⟩
theorem M.Ld.push {w W W' : World} {v v' : Value} {ss ss' : List ByteArray} (h : M.Ld w v ss W) (hg : W.grownBy W' v.ownBlock) (ho : M.OwnS W' (w.heap.size + 2) v' ss') : M.Ld w v' ss' (W'.setCell ⟨w.heap.size + 1, 0, none⟩ v') := by
  have hlt := fun j hj => (World.ownsRow.lt h.own j hj).1
  have n0 : some w.heap.size ≠ v.ownBlock := fun e => by have := hlt _ e.symm; omega
  have n1 : some (w.heap.size + 1) ≠ v.ownBlock := fun e => by have := hlt _ e.symm; omega
  have l0 := World.block_lt_of_cell? W _ h.r0
  have l1 := World.block_lt_of_cell? W _ h.c0
  refine ⟨?_, ?_, fun j => ?_, ?_, ?_, fun j => ?_, ho.setOther _ _ _ (by omega), ?_, ?_, ?_⟩
  · rw [World.cell?_setCell_other _ _ _ _ (by simp)]; exact hg.cell h.r0 n0
  · rw [World.cell?_setCell_other _ _ _ _ (by simp)]; exact hg.cell h.r1 n0
  · rw [World.frozen?_setCell, World.frozen?_of_block (w := W) (a := ⟨w.heap.size, j, none⟩) (hg.block _ l0 n0)]; exact h.rf j
  · exact World.cell?_setCell_same _ _ _ (hg.cell h.c0 n1)
  · rw [World.cell?_setCell_other _ _ _ _ (by simp)]; exact hg.cell h.c1 n1
  · rw [World.frozen?_setCell, World.frozen?_of_block (w := W) (a := ⟨w.heap.size + 1, j, none⟩) (hg.block _ l1 n1)]; exact h.cf j
  · exact (h.bel.grown hg h.bel.size (fun j hj => by have := hlt j hj; omega)).setCell (by simp only; omega) _
  · exact (h.rr.of_block (hg.block _ l0 n0)).of_block (Below.heap_setCell _ _ _ _ (by simp only; omega))
  · exact (h.cr.of_block (hg.block _ l1 n1)).setCell _ _
theorem M.Row.beyond {W : World} {H : Nat} {T : TypeId} {N i : Nat} (h : M.Row W H T N) (hi : N ≤ i) : W.cell? ⟨H, i, none⟩ = none := by
  obtain ⟨cur, h1, rfl⟩ := h
  simp [World.cell?, h1, hi]
theorem M.Ld.apart {w W : World} {v : Value} {ss : List ByteArray} {b off : Nat} {s : ByteArray} (h : M.Ld w v ss W) (hv : ∃ a n c, v = .slice a n c) (hs : W.cell? ⟨b, off, none⟩ = some (.string s)) : b ≠ w.heap.size ∧ b ≠ w.heap.size + 1 := by
  obtain ⟨a, n, c, rfl⟩ := hv
  constructor
  · rintro rfl
    rcases (show off = 0 ∨ off = 1 ∨ 2 ≤ off by omega) with rfl | rfl | ho
    · rw [h.r0] at hs; cases hs
    · rw [h.r1] at hs; cases hs
    · rw [h.rr.beyond ho] at hs; cases hs
  · rintro rfl
    rcases (show off = 0 ∨ off = 1 ∨ 2 ≤ off by omega) with rfl | rfl | ho
    · rw [h.c0] at hs; cases hs
    · rw [h.c1] at hs; cases hs
    · rw [h.cr.beyond ho] at hs; cases hs
theorem M.Files.setOther {W : World} {a : Option Addr} {len cap : Nat} {fs : List M.FileD} (h : M.Files W a len cap fs) (H j : Nat) (u : Value) (hne : ∀ b off, a = some ⟨b, off, none⟩ → 0 < len → b ≠ H) : M.Files (W.setCell ⟨H, j, none⟩ u) a len cap fs := by
  obtain ⟨h1, h2, h3, h4⟩ := h
  refine ⟨h1, h2, h3, fun hl => ?_⟩
  obtain ⟨b, off, rfl, hf⟩ := h4 hl
  exact ⟨b, off, rfl, hf.of_block (Below.heap_setCell _ _ _ _ (hne b off rfl hl))⟩

/-- What l04Read tells. -/
def M.L04Out (s : ByteArray) (v : Bool) (ss : List ByteArray) (fs : List M.FileD) : Prop :=
  (v = true → ∃ a, M.headT s = some (ss, a) ∧ (M.outL M.recI (s.data.toList.drop a)).1 = 0 ∧ fs = (M.outL M.recI (s.data.toList.drop a)).2.2 ∧ M.DeltaR ss fs)
  ∧ (v = false → ∀ ss' a, M.headT s = some (ss', a) → ¬ ((M.outL M.recI (s.data.toList.drop a)).1 = 0 ∧ M.DeltaR ss' (M.outL M.recI (s.data.toList.drop a)).2.2))
def M.L04Is (s : ByteArray) (e : Ending) (w' : World) : Prop :=
  ∃ (a1 a2 : Option Addr) (n1 c1 n2 c2 : Nat) (v : Bool) (ss : List ByteArray) (fs : List M.FileD), e = .returned (.tuple #[.agg #[.slice a1 n1 c1, .slice a2 n2 c2], .bool v]) ∧ M.L04Out s v ss fs ∧ M.Strs w' a1 n1 c1 ss ∧ M.Files w' a2 n2 c2 fs
theorem M.L04Is.drew {s : ByteArray} {e : Ending} {W : World} (h : M.L04Is s e W) : M.L04Is s e W.drew := by
  obtain ⟨a1, a2, n1, c1, n2, c2, v, ss, fs, he, ho, hS, hF⟩ := h
  exact ⟨a1, a2, n1, c1, n2, c2, v, ss, fs, he, ho, hS.below (Below.refl _ _).drew, hF.below (Below.refl _ _).drew⟩
theorem M.one_n' (w : World) (s : ByteArray) (T : TypeId) (n : Nat) (hn : n = w.heap.size) : ∀ j u, ([Value.string s])[j]? = some u → (w.alloc (.cells #[.string s] T)).cell? ((⟨n, 0, none⟩ : Addr).add j) = some u := by
  subst hn
  exact M.one_n w s T
theorem M.two_cells {W : World} {H : Nat} {u0 u1 : Value} (v0 v1 : Value) (c0 : W.cell? ⟨H, 0, none⟩ = some u0) (c1 : W.cell? ⟨H, 1, none⟩ = some u1) :
    ((W.setCell ⟨H, 0, none⟩ v0).setCell ⟨H, 1, none⟩ v1).cell? ⟨H, 0, none⟩ = some v0 ∧ ((W.setCell ⟨H, 0, none⟩ v0).setCell ⟨H, 1, none⟩ v1).cell? ⟨H, 1, none⟩ = some v1 := by
  refine ⟨?_, ?_⟩
  · rw [World.cell?_setCell_other _ _ _ _ (by simp)]; exact World.cell?_setCell_same _ _ _ c0
  · refine World.cell?_setCell_same _ _ _ (u := u1) ?_
    rw [World.cell?_setCell_other _ _ _ _ (by simp)]; exact c1

set_option maxRecDepth 100000 in
set_option maxHeartbeats 3200000 in
theorem sL04_read (s : ByteArray) (w : World) (hs : s.size ≤ 20000) :
    Calls Tryz.prog 44 #[.string s] w fun e w' => M.L04Is s e w' ∧ Below w.heap.size w w' := by
  have hR := fun W => sGetNum_any s 0 W (by unfold maxLen; omega) (by omega) (by omega)
  have hok := @M.num3_ok s 0
  have hh : M.headT s = if (M.num3 s 0).2.2 = 0 ∧ 0 ≤ (M.num3 s 0).1 ∧ (M.num3 s 0).1 ≤ 40 then M.dropsT s (M.num3 s 0).1.toNat (M.num3 s 0).2.1.toNat else none := rfl
  revert hR hok hh
  generalize (M.num3 s 0).1 = n, (M.num3 s 0).2.1 = a0, (M.num3 s 0).2.2 = c
  intro hR hok hh
  obtain ⟨i0, hi, hz0, hz1, hz2⟩ := info_parts Tryz.infoTx
  have HR := M.hidD hR
  have HH := M.hidD hh
  have HOK := M.hidD hok
  have L0 := M.hidD (M.Ld.start w)
  clear hR hh hok
  have NO : Hid (∀ (W : World), M.headT s = none → Below w.heap.size w W → M.L04Is s (.returned (.tuple #[.agg #[.slice none 0 0, .slice none 0 0], .bool false])) W ∧ Below w.heap.size w W) := fun W hn hb => ⟨⟨_, _, _, _, _, _, _, [], [], rfl, ⟨fun h => (by cases h), fun _ ss' a h => (by rw [hn] at h; cases h)⟩, M.Strs.nil _, M.files_nil _⟩, hb⟩
  go_enter Tryz.func44, Tryz.ntmps44
  go_wp2_with fail
  refine (HR.out _).mono ?_
  rintro e w1 ⟨rfl, hb1⟩
  have L1 := M.hidD (L0.out.below hb1)
  have NB : Hid (∀ (W : World) (v : Value) (ss : List ByteArray), M.Ld w v ss W → ∀ u0 u1, ((W.setCell ⟨w.heap.size, 0, none⟩ u0).setCell ⟨w.heap.size, 1, none⟩ u1).cell? ⟨w.heap.size, 0, none⟩ = some u0 ∧ ((W.setCell ⟨w.heap.size, 0, none⟩ u0).setCell ⟨w.heap.size, 1, none⟩ u1).cell? ⟨w.heap.size, 1, none⟩ = some u1 ∧ Below w.heap.size w ((W.setCell ⟨w.heap.size, 0, none⟩ u0).setCell ⟨w.heap.size, 1, none⟩ u1)) := fun W v ss hL u0 u1 => by
    obtain ⟨x0, x1⟩ := M.two_cells u0 u1 hL.r0 hL.r1
    exact ⟨x0, x1, (hL.bel.setCell (Nat.le_refl _) _).setCell (Nat.le_refl _) _⟩
  clear hb1 L0
  have HA : Hid (∀ (W : World) (o : Obj), Below W.heap.size W (W.alloc o)) := fun W o => (Below.refl _ _).alloc (Nat.le_refl _) _
  by_cases hbad : ¬ (c = 0 ∧ 0 ≤ n ∧ n ≤ 40)
  · have HN : Hid (M.headT s = none) := by
      show _ = _
      rw [HH.out, if_neg (fun h => hbad ⟨by exact h.1, h.2⟩)]
    by_cases hc : c = 0
    · subst hc
      have L2 := L1.out.below (HA.out w1 (.cells #[.int .i64 n, .int .i64 a0, .int .i64 0] 97))
      have rf := L2.rf
      have c0 := L2.c0
      have c1 := L2.c1
      obtain ⟨x0, x1, hBX⟩ := NB.out _ _ _ L2 (.slice none 0 0) (.slice none 0 0)
      have r0 := L2.r0
      have r1 := L2.r1
      have f0 := rf 0
      have f1 := rf 1
      have HBX := M.hidD hBX
      clear L2 rf hBX HH HOK HR
      by_cases hn0 : n < 0
      · have dn : decide (n < 0) = true := decide_eq_true hn0
        go_wp2
        refine bodyPost_ret (v := .tuple #[.agg #[.slice none 0 0, .slice none 0 0], .bool false]) (by simp [results, Tryz.results44, go_sem, x0, x1]) rfl ?_
        exact NO.out _ HN.out HBX.out
      · have dn : decide (n < 0) = false := decide_eq_false hn0
        have dn4 : decide (40 < n) = true := decide_eq_true (by omega)
        go_wp2
        refine bodyPost_ret (v := .tuple #[.agg #[.slice none 0 0, .slice none 0 0], .bool false]) (by simp [results, Tryz.results44, go_sem, x0, x1]) rfl ?_
        exact NO.out _ HN.out HBX.out
    · have L2 := L1.out.below (HA.out w1 (.cells #[.int .i64 n, .int .i64 a0, .int .i64 c] 97))
      have rf := L2.rf
      have c0 := L2.c0
      have c1 := L2.c1
      obtain ⟨x0, x1, hBX⟩ := NB.out _ _ _ L2 (.slice none 0 0) (.slice none 0 0)
      have r0 := L2.r0
      have r1 := L2.r1
      have f0 := rf 0
      have f1 := rf 1
      have HBX := M.hidD hBX
      clear L2 rf hBX HH HOK HR
      have dc : ((c : Int) != 0) = true := by simp; omega
      go_wp2
      refine bodyPost_ret (v := .tuple #[.agg #[.slice none 0 0, .slice none 0 0], .bool false]) (by simp [results, Tryz.results44, go_sem, x0, x1]) rfl ?_
      exact NO.out _ HN.out HBX.out
  obtain ⟨rfl, hn0, hn40⟩ := Classical.not_not.1 hbad
  obtain ⟨b1, b2, b3, b4, -⟩ := HOK.out rfl
  obtain ⟨a0, rfl⟩ := Int.eq_ofNat_of_zero_le b1
  obtain ⟨n, rfl⟩ := Int.eq_ofNat_of_zero_le hn0
  have hn40' : n ≤ 40 := by omega
  have ha0 : a0 ≤ s.size := by omega
  have HT : Hid (M.headT s = M.dropsT s n a0) := by show _ = _; rw [HH.out, if_pos ⟨rfl, hn0, hn40⟩, Int.toNat_natCast, Int.toNat_natCast]
  have dn : decide ((n : Int) < 0) = false := decide_eq_false (by omega)
  have dn4 : decide ((40 : Int) < (n : Int)) = false := decide_eq_false (by omega)
  have L2 := M.hidD (L1.out.below (HA.out w1 (.cells #[.int .i64 n, .int .i64 a0, .int .i64 0] 97)))
  clear HH HOK HR L1 hbad hn0 hn40 b1 b2 b3 b4
  go_wp2
  go_loopw [6, 7] (fun x i wr => ∃ (k a : Nat) (acc : List ByteArray) (v : Value), x = .int .i64 a ∧ i = .int .i64 k ∧ k ≤ n ∧ a ≤ s.size ∧ acc.length + k = n ∧ Hid (M.headT s = (M.dropsT s k a).map fun r => (acc ++ r.1, r.2)) ∧ Hid (M.Ld w v acc wr)) (fun _ i _ => (intOf i).toNat)
  case atStart => exact ⟨n, a0, [], _, rfl, rfl, Nat.le_refl _, ha0, by simp, (show _ = _ by rw [HT.out]; simp), L2⟩
  case round =>
    obtain ⟨k, a, acc, v, rfl, rfl, hk, ha, hac, HD, HL⟩ := hrel
    obtain ⟨a1, cp1, rfl, -⟩ := HL.out.own.strs
    by_cases hlt : 0 < k
    · obtain ⟨m, rfl⟩ : ∃ m, k = m + 1 := ⟨k - 1, by omega⟩
      have hRT := fun W => sGetText_any s (a : Int) W (by unfold maxLen; omega) (by omega) (by omega)
      have hno := @M.dropsT_no s m a
      have hyes := fun t b => @M.dropsT_yes s m a t b acc
      have hcan := @M.txt_canon s a
      revert hRT hno hyes hcan
      generalize M.txt3 s (a : Int) = T
      obtain ⟨t, b, c⟩ := T
      intro hRT hno hyes hcan
      simp only at hRT hno hcan
      have HRT := M.hidD hRT
      have HNO := M.hidD hno
      have HYES := M.hidD hyes
      have HCAN := M.hidD hcan
      clear hRT hno hyes hcan
      go_wp2_with fail
      refine (HRT.out _).mono ?_
      rintro e w5 ⟨rfl, hb5⟩
      have L5 := M.hidD (HL.out.below hb5)
      clear hb5 HL HRT
      by_cases hc : c = 0
      · subst hc
        obtain ⟨-, e1, e2, e3, -⟩ := HCAN.out rfl
        obtain ⟨b, rfl⟩ := Int.eq_ofNat_of_zero_le e1
        have HD2 : Hid (M.headT s = (M.dropsT s m b).map fun r => ((acc ++ [t]) ++ r.1, r.2)) := by show _ = _; rw [HD.out, HYES.out t b rfl]
        have L6 := M.hidD (L5.out.below (HA.out w5 (.cells #[.string t, .int .i64 b, .int .i64 0] 100)))
        have hsz5 : w.heap.size + 2 ≤ w5.heap.size := by have := World.block_lt_of_cell? w5 _ L5.out.c0; simp only at this; omega
        have c0 := L6.out.c0
        have cf := L6.out.cf 0
        have O6 := L6.out.own
        have hal : acc.length ≤ 40 := by omega
        have hON := M.one_n' (w5.alloc (.cells #[.string t, .int .i64 b, .int .i64 0] 100)) t 9 (w5.heap.size + 1) (by simp)
        go_wp2_with (at_builtin; refine wpList_append_own _ rfl (.tmp 43) (.tmp 46) 22 rfl (w.heap.size + 2) 9 i0 (.string ⟨#[]⟩) 1 16 Tryz.underlying22 hi hz0 hz1 hz2 rfl (by decide) _ _ _ rfl (World.ownsRow.alloc O6 _) ⟨w5.heap.size + 1, 0, none⟩ 1 1 [.string t] rfl rfl hON ?c2 ?c3 ?c4 ?c5 ?_)
        case c2 => exact M.oneCellS t
        case c3 => unfold maxLen; omega
        case c4 => omega
        case c5 => simp; omega
        intro v' w6 hown' hgrow _
        obtain ⟨a', cp', hv', -⟩ := (M.OwnS.more hown').strs
        rw [List.length_append, List.length_singleton] at hv'
        subst hv'
        have L6a := L6.out.below (HA.out _ (.cells #[.string t] 9))
        have hlt := fun j hj => (World.ownsRow.lt L6a.own j hj).1
        have hn1 : some (w.heap.size + 1) ≠ (Value.slice a1 acc.length cp1).ownBlock := fun e => by have := hlt _ e.symm; omega
        have hny : some w5.heap.size ≠ (Value.slice a1 acc.length cp1).ownBlock := fun e => by
          have := (World.ownsRow.lt L5.out.own _ e.symm).2
          omega
        have L7 := M.hidD (L6a.push hgrow (M.OwnS.more hown'))
        have k0 := hgrow.cell L6a.c0 hn1
        have kf : w6.frozen? ⟨w.heap.size + 1, 0, none⟩ = false := by
          rw [World.frozen?_of_block (w := (w5.alloc (.cells #[.string t, .int .i64 b, .int .i64 0] 100)).alloc (.cells #[.string t] 9)) (a := ⟨w.heap.size + 1, 0, none⟩) (hgrow.block _ (World.block_lt_of_cell? _ _ L6a.c0) hn1)]
          exact L6a.cf 0
        have y1 : w6.cell? ⟨w5.heap.size, 1, none⟩ = some (.int .i64 b) := hgrow.cell (a := ⟨w5.heap.size, 1, none⟩) (M.boxed (w := w5) (T := 100) (vs := #[.string t, .int .i64 b, .int .i64 0]) (HA.out _ (.cells #[.string t] 9)) 1 _ rfl) hny
        have z1 : (w6.setCell ⟨w.heap.size + 1, 0, none⟩ (.slice a' (acc.length + 1) cp')).cell? ⟨w5.heap.size, 1, none⟩ = some (.int .i64 b) := by
          rw [World.cell?_setCell_other _ _ _ _ (by intro e; simp only [Addr.mk.injEq] at e; omega)]; exact y1
        have hl2 : (acc ++ [t]).length + m = n := by rw [List.length_append, List.length_singleton]; omega
        clear hown' hgrow hlt hn1 hny L6a O6 c0 cf hON y1
        go_wp2
        go_roundw
        case rel => exact ⟨m, b, acc ++ [t], _, rfl, by go_num, by omega, by omega, hl2, HD2, L7⟩
        case measure => simp [intOf]
      · have HN : Hid (M.headT s = none) := by show _ = _; rw [HD.out, HNO.out hc]; rfl
        have L6 := L5.out.below (HA.out w5 (.cells #[.string t, .int .i64 b, .int .i64 c] 100))
        have dc : ((c : Int) != 0) = true := by simp; omega
        have r0 := L6.r0
        have r1 := L6.r1
        have f0 := L6.rf 0
        have f1 := L6.rf 1
        have c0 := L6.c0
        have c1 := L6.c1
        obtain ⟨x0, x1, hBX⟩ := NB.out _ _ _ L6 (.slice a1 acc.length cp1) (.slice none 0 0)
        have HBX := M.hidD hBX
        obtain ⟨a2, cp2, e2, hS⟩ := ((L6.own.setOther w.heap.size 0 (.slice a1 acc.length cp1) (by omega)).setOther w.heap.size 1 (.slice none 0 0) (by omega)).strs
        have HS := M.hidD hS
        have HE2 := M.hidD e2
        clear L6 HCAN HNO HYES HD hBX hS e2
        go_wp2
        refine bodyPost_ret (v := .tuple #[.agg #[.slice a1 acc.length cp1, .slice none 0 0], .bool false]) (by simp [results, Tryz.results44, go_sem, x0, x1]) rfl ?_
        refine ⟨⟨a2, none, acc.length, cp2, 0, 0, false, acc, [], by rw [HE2.out], ⟨fun h => (by cases h), fun _ ss' a h => (by rw [HN.out] at h; cases h)⟩, HS.out, M.files_nil _⟩, HBX.out⟩
    · obtain rfl : k = 0 := by omega
      have HF : Hid (M.headT s = some (acc, a)) := by show _ = _; rw [HD.out, M.dropsT]; simp
      obtain ⟨-, -, -, -, hts⟩ := M.headT_canon HF.out
      have HTS := M.hidD hts
      obtain ⟨x, hx⟩ : ∃ x, x = s.extract a s.size := ⟨_, rfl⟩
      have hxz : x.size ≤ 20000 := by rw [hx, ByteArray.size_extract]; omega
      have hxl : x.data.toList = s.data.toList.drop a := by
        rw [hx, Lib.extract_data]
        exact List.take_of_length_le (by rw [List.length_drop, ← Lib.size_eq]; exact Nat.le_refl _)
      have HX := M.hidD hx
      have CU : Hid (∀ W, Calls Tryz.prog 79 #[.string x] W fun e w' => M.PaxIs w' e (M.outL M.recI (s.data.toList.drop a)) ∧ Below W.heap.size W w') := fun W => by
        have := sUnpack_any x W hxz
        rw [hxl, M.outL_eq M.recS_ok M.recI_ok] at this
        exact this
      have hfk := @M.outL_fok M.recI (s.data.toList.drop a)
      have hro : ∀ v fs, (v = true → (M.outL M.recI (s.data.toList.drop a)).1 = 0 ∧ fs = (M.outL M.recI (s.data.toList.drop a)).2.2 ∧ M.DeltaR acc fs) → (v = false → ¬ ((M.outL M.recI (s.data.toList.drop a)).1 = 0 ∧ M.DeltaR acc (M.outL M.recI (s.data.toList.drop a)).2.2)) → M.L04Out s v acc fs := fun v fs h1 h2 => by
        refine ⟨fun hv => ⟨a, HF.out, (h1 hv).1, (h1 hv).2.1, (h1 hv).2.2⟩, fun hv ss' b hb => ?_⟩
        rw [HF.out] at hb
        cases hb
        exact h2 hv
      clear hx hxl hxz HD hts
      revert CU hfk hro
      generalize M.outL M.recI (s.data.toList.drop a) = O
      obtain ⟨cx, ax, fs⟩ := O
      intro CU hfk hro
      simp only at hfk hro
      have HFK := M.hidD hfk
      have HRO := M.hidD hro
      clear hfk hro
      go_wp2_with fail
      rw [← HX.out]
      refine (CU.out _).mono ?_
      rintro e w2 ⟨⟨av, cpv, rfl, hF2⟩, hb2⟩
      simp only at hF2
      have L2 := M.hidD (HL.out.below hb2)
      have hne : ∀ b off, av = some ⟨b, off, none⟩ → 0 < fs.length → b ≠ w.heap.size ∧ b ≠ w.heap.size + 1 := fun b off ha hl => by
        obtain ⟨-, -, -, h4⟩ := hF2
        obtain ⟨b', off', rfl, hf⟩ := h4 hl
        cases ha
        exact L2.out.apart ⟨_, _, _, rfl⟩ (hf 0 hl).1
      have hlt2 : w.heap.size + 1 < w2.heap.size := World.block_lt_of_cell? w2 _ L2.out.c0
      have c0 := L2.out.c0
      have c1 := L2.out.c1
      have cf := L2.out.cf 1
      have o2 : ∀ (p : Addr), p ≠ ⟨w.heap.size + 1, 1, none⟩ → (w2.setCell ⟨w.heap.size + 1, 1, none⟩ (.slice av fs.length cpv)).cell? p = w2.cell? p := fun p hp => World.cell?_setCell_other _ _ _ _ (fun e => hp e.symm)
      have F2s := hF2.setOther (w.heap.size + 1) 1 (.slice av fs.length cpv) (fun b off h hl => (hne b off h hl).2)
      have O2s := L2.out.own.setOther (w.heap.size + 1) 1 (.slice av fs.length cpv) (by omega)
      have B2s : Below w.heap.size w (w2.setCell ⟨w.heap.size + 1, 1, none⟩ (.slice av fs.length cpv)) := L2.out.bel.setCell (by simp only; omega) _
      have e0 := (o2 ⟨w.heap.size + 1, 0, none⟩ (by simp)).trans c0
      have e1 : (w2.setCell ⟨w.heap.size + 1, 1, none⟩ (.slice av fs.length cpv)).cell? ⟨w.heap.size + 1, 1, none⟩ = some (.slice av fs.length cpv) := World.cell?_setCell_same _ _ _ c1
      have q0 := (o2 ⟨w.heap.size, 0, none⟩ (by simp)).trans L2.out.r0
      have q1 := (o2 ⟨w.heap.size, 1, none⟩ (by simp)).trans L2.out.r1
      have qf : ∀ j, (w2.setCell ⟨w.heap.size + 1, 1, none⟩ (.slice av fs.length cpv)).frozen? ⟨w.heap.size, j, none⟩ = false := fun j => by rw [World.frozen?_setCell]; exact L2.out.rf j
      have hzz : (w2.setCell ⟨w.heap.size + 1, 1, none⟩ (.slice av fs.length cpv)).heap.size = w2.heap.size := by simp [World.setCell]
      obtain ⟨W2, hW2⟩ : ∃ W2, W2 = w2.setCell ⟨w.heap.size + 1, 1, none⟩ (.slice av fs.length cpv) := ⟨_, rfl⟩
      rw [← hW2] at F2s O2s B2s e0 e1 q0 q1 qf hzz
      have hA3 := HA.out W2 (.cells #[.slice av fs.length cpv, .int .i64 ax, .int .i64 cx] 70)
      have z2 := M.boxed (w := W2) (T := 70) (vs := #[.slice av fs.length cpv, .int .i64 ax, .int .i64 cx]) (Below.refl _ _) 2 _ rfl
      rw [hzz] at z2
      have F3 := F2s.below hA3
      have O3 := O2s.below hA3
      have B3 := M.se B2s hA3
      have d0 := (hA3.cell (World.block_lt_of_cell? W2 _ e0)).trans e0
      have d1 := (hA3.cell (World.block_lt_of_cell? W2 _ e1)).trans e1
      have r0 := (hA3.cell (World.block_lt_of_cell? W2 _ q0)).trans q0
      have r1 := (hA3.cell (World.block_lt_of_cell? W2 _ q1)).trans q1
      have hl0 : w.heap.size < W2.heap.size := World.block_lt_of_cell? W2 _ q0
      have rf : ∀ j, (W2.alloc (.cells #[.slice av fs.length cpv, .int .i64 ax, .int .i64 cx] 70)).frozen? ⟨w.heap.size, j, none⟩ = false := fun j => by rw [hA3.frozen (p := ⟨w.heap.size, j, none⟩) hl0]; exact qf j
      obtain ⟨W3, hW3⟩ : ∃ W3, W3 = W2.alloc (.cells #[.slice av fs.length cpv, .int .i64 ax, .int .i64 cx] 70) := ⟨_, rfl⟩
      rw [← hW3] at F3 O3 B3 d0 d1 r0 r1 rf z2
      rw [hW2] at hW3
      have HW3 := M.hidD hW3
      have HF3 := M.hidD F3
      have HO3 := M.hidD O3
      have HB3 := M.hidD B3
      have HNE : Hid (∀ b off, av = some ⟨b, off, none⟩ → 0 < fs.length → b ≠ w.heap.size) := fun b off h hl => (hne b off h hl).1
      have FIN : Hid (∀ (W : World) (r : Bool), Below W3.heap.size W3 W → M.L04Out s r acc fs → M.L04Is s (.returned (.tuple #[.agg #[.slice a1 acc.length cp1, .slice av fs.length cpv], .bool r])) ((W.setCell ⟨w.heap.size, 0, none⟩ (.slice a1 acc.length cp1)).setCell ⟨w.heap.size, 1, none⟩ (.slice av fs.length cpv)) ∧ Below w.heap.size w ((W.setCell ⟨w.heap.size, 0, none⟩ (.slice a1 acc.length cp1)).setCell ⟨w.heap.size, 1, none⟩ (.slice av fs.length cpv))) := fun W r hW hO => by
        obtain ⟨a2, cp2, e2, hS⟩ := (((HO3.out.below hW).setOther w.heap.size 0 (.slice a1 acc.length cp1) (by omega)).setOther w.heap.size 1 (.slice av fs.length cpv) (by omega)).strs
        refine ⟨⟨a2, av, acc.length, cp2, fs.length, cpv, r, acc, fs, by rw [e2], hO, hS, ((HF3.out.below hW).setOther _ _ _ HNE.out).setOther _ _ _ HNE.out⟩, ?_⟩
        exact ((M.se HB3.out hW).setCell (Nat.le_refl _) _).setCell (Nat.le_refl _) _
      have XS : Hid (∀ (W : World), Below W3.heap.size W3 W → ((W.setCell ⟨w.heap.size, 0, none⟩ (.slice a1 acc.length cp1)).setCell ⟨w.heap.size, 1, none⟩ (.slice av fs.length cpv)).cell? ⟨w.heap.size, 0, none⟩ = some (.slice a1 acc.length cp1) ∧ ((W.setCell ⟨w.heap.size, 0, none⟩ (.slice a1 acc.length cp1)).setCell ⟨w.heap.size, 1, none⟩ (.slice av fs.length cpv)).cell? ⟨w.heap.size, 1, none⟩ = some (.slice av fs.length cpv)) := fun W hW => M.two_cells _ _ ((hW.cell (p := ⟨w.heap.size, 0, none⟩) (World.block_lt_of_cell? W3 _ r0)).trans r0) ((hW.cell (p := ⟨w.heap.size, 1, none⟩) (World.block_lt_of_cell? W3 _ r1)).trans r1)
      clear hW3 hW2 F3 O3 B3 o2 F2s O2s B2s e0 e1 q0 q1 qf hzz hl0 hne hA3 hb2 hF2 L2 HL W2
      by_cases hcx : cx = 0
      · subst hcx
        obtain ⟨r, hr⟩ : ∃ r : Bool, r = true ↔ M.DeltaR acc fs := by
          by_cases h : M.DeltaR acc fs
          · exact ⟨true, by simp [h]⟩
          · exact ⟨false, by simp [h]⟩
        have HRO0 : Hid (M.L04Out s r acc fs) := HRO.out r fs (fun h => ⟨rfl, rfl, hr.1 h⟩) (fun h hh => by rw [hr.2 hh.2] at h; cases h)
        have CR : Hid (Calls Tryz.prog 22 #[.agg #[.slice a1 acc.length cp1, .slice av fs.length cpv]] W3.drew fun e w' => e = .returned (.bool r) ∧ Below W3.drew.heap.size W3.drew w') := by
          obtain ⟨a2, cp2, e2, hS⟩ := HO3.out.strs
          cases e2
          refine (sDeltaR_any W3.drew a1 av acc.length cp1 fs.length cpv acc fs (hS.below (Below.refl _ _).drew) (HF3.out.below (Below.refl _ _).drew) (fun t ht => by have := HTS.out t ht; unfold maxLen; omega) HFK.out).mono ?_
          rintro e w' ⟨u, rfl, hu, hb⟩
          exact ⟨by rw [show u = r by rw [Bool.eq_iff_iff, hu, hr]], hb⟩
        have f0 := rf 0
        have f1 := rf 1
        have BDR : Hid (Below W3.heap.size W3 W3.drew) := (Below.refl _ _).drew
        have lw0 : w.heap.size < W3.heap.size := World.block_lt_of_cell? W3 _ r0
        have lw1 : w.heap.size + 1 < W3.heap.size := World.block_lt_of_cell? W3 _ d0
        clear hr
        go_wp2_with fail
        rw [← HW3.out]
        go_region_with (go_at_call 22; refine CR.out.mono ?_; rintro e w5 ⟨rfl, hb5⟩; have hb6 := M.se BDR.out hb5; have B5 := M.hidD hb6; have s0 := (hb6.cell (p := ⟨w.heap.size, 0, none⟩) lw0).trans r0; have s1 := (hb6.cell (p := ⟨w.heap.size, 1, none⟩) lw0).trans r1; have t0 := (hb6.frozen (p := ⟨w.heap.size, 0, none⟩) lw0).trans f0; have t1 := (hb6.frozen (p := ⟨w.heap.size, 1, none⟩) lw0).trans f1; have u0 := (hb6.cell (p := ⟨w.heap.size + 1, 0, none⟩) lw1).trans d0; have u1 := (hb6.cell (p := ⟨w.heap.size + 1, 1, none⟩) lw1).trans d1; obtain ⟨x0, x1⟩ := XS.out w5 hb6; clear hb5 hb6)
        all_goals
          go_wp2
          refine bodyPost_ret (v := .tuple #[.agg #[.slice a1 acc.length cp1, .slice av fs.length cpv], .bool r]) (by simp [results, Tryz.results44, go_sem, x0, x1]) rfl ?_
          exact FIN.out w5 r B5.out HRO0.out
      · have dcx : (cx == 0) = false := by simpa using hcx
        have HRO0 : Hid (M.L04Out s false acc fs) := HRO.out false fs (fun h => by cases h) (fun _ h => hcx h.1)
        obtain ⟨y0, y1⟩ := XS.out W3 (Below.refl _ _)
        have x0 : ((W3.setCell ⟨w.heap.size, 0, none⟩ (.slice a1 acc.length cp1)).setCell ⟨w.heap.size, 1, none⟩ (.slice av fs.length cpv)).drew.cell? ⟨w.heap.size, 0, none⟩ = some (.slice a1 acc.length cp1) := y0
        have x1 : ((W3.setCell ⟨w.heap.size, 0, none⟩ (.slice a1 acc.length cp1)).setCell ⟨w.heap.size, 1, none⟩ (.slice av fs.length cpv)).drew.cell? ⟨w.heap.size, 1, none⟩ = some (.slice av fs.length cpv) := y1
        have f0 := rf 0
        have f1 := rf 1
        go_wp2_with fail
        rw [← HW3.out]
        go_region
        go_wp2
        refine bodyPost_ret (v := .tuple #[.agg #[.slice a1 acc.length cp1, .slice av fs.length cpv], .bool false]) (by simp [results, Tryz.results44, go_sem, x0, x1]) rfl ?_
        have hF := FIN.out W3 false (Below.refl _ _) HRO0.out
        exact ⟨hF.1.drew, M.se hF.2 (Below.refl _ _).drew⟩
end Go.Proofs.YtephjmlcbpfnaaaGreatDoor
