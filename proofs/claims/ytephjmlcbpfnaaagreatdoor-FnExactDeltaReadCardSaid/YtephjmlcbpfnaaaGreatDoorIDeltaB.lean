/-
  What DeltaBytes of the program does.
-/
import Derived.Test.YtephjmlcbpfnaaaGreatDoorPart15
import Derived.Test.YtephjmlcbpfnaaaGreatDoorPart16
import Derived.Test.YtephjmlcbpfnaaaGreatDoorPart19
import Derived.Test.YtephjmlcbpfnaaaGreatDoorPart20
namespace Go.Proofs.YtephjmlcbpfnaaaGreatDoor
open Go.RowKit

theorem M.OwnM.down {w : World} {b b' : Nat} {v : Value} {L : List UInt8} (h : M.OwnM w b v L) (hb : b' ≤ b) : M.OwnM w b' v L := by
  obtain ⟨g, cap, hv, hg, hr⟩ := h
  exact ⟨g, cap, hv, Nat.le_trans hb hg, hr⟩

set_option maxRecDepth 100000 in
set_option maxHeartbeats 1600000 in
theorem iDeltaB_any (w : World) (a1 a2 : Option Addr) (n1 c1 n2 c2 : Nat) (ss : List ByteArray) (fs : List M.FileD) (h1 : M.Strs w a1 n1 c1 ss) (h2 : M.Files w a2 n2 c2 fs) (o1 : ∀ s ∈ ss, s.size ≤ maxLen) (o2 : ∀ f ∈ fs, M.fok f) (hm : M.ml w) (hw : M.pw w) (ht : M.tz w) (r : Bool) (hr : r = true ↔ M.DeltaR ss fs) :
    Calls Tryz.prog 14 #[.agg #[.slice a1 n1 c1, .slice a2 n2 c2]] w fun e w' => e = .returned (.string (if r = true then M.bytesB ss fs else ⟨#[]⟩)) ∧ Below w.heap.size w w' := by
  have HN1 : Hid (n1 = ss.length) := h1.1
  have HS := M.hide h1
  have HF := M.hide h2
  have O1 := M.hide o1
  have O2 := M.hide o2
  have HM : Hid (M.ml w ∧ M.pw w ∧ M.tz w) := ⟨hm, hw, ht⟩
  have HR := M.hide hr
  have HB : Hid (∀ o, Below w.heap.size w (w.alloc o)) := fun o => (Below.refl _ _).alloc (Nat.le_refl _) _
  obtain ⟨i0, hi, hz0, hz1, hz2⟩ := info_parts Tryz.infoB8
  clear h1 h2 o1 o2 hm hw ht hr
  obtain ⟨R, hRR⟩ : ∃ R, R = if r = true then M.bytesB ss fs else (⟨#[]⟩ : ByteArray) := ⟨_, rfl⟩
  rw [← hRR]
  have HRR := M.hide hRR
  clear hRR
  go_enter Tryz.func14, Tryz.ntmps14
  go_wp2_with fail
  refine (iDeltaR_any _ a1 a2 n1 c1 n2 c2 ss fs (HS.out.below (HB.out _)) (HF.out.below (HB.out _)) O1.out O2.out (M.ml_below HM.out.1 (HB.out _))).mono ?_
  rintro e w1 ⟨v, rfl, hv, hb1⟩
  obtain rfl : r = v := by rw [Bool.eq_iff_iff, HR.out, hv]
  have B1 := M.hide hb1
  have B1w := M.hide (M.boxed_below hb1)
  have g0 : w1.cell? ⟨w.heap.size, 0, none⟩ = some (.slice a1 n1 c1) := M.boxed hb1 0 _ rfl
  have g1 : w1.cell? ⟨w.heap.size, 1, none⟩ = some (.slice a2 n2 c2) := M.boxed hb1 1 _ rfl
  clear hv hb1
  cases r
  · have HE : Hid (R = ⟨#[]⟩) := by show _ = _; rw [HRR.out]; rfl
    go_wp2
    go_ret
    exact ⟨by rw [HE.out]; rfl, B1w.out⟩
  have HD := M.hide (HR.out.1 rfl)
  have HE0 : Hid (R = M.bytesB ss fs) := by show _ = _; rw [HRR.out]; rfl
  clear HR HRR
  have hn40 : n1 ≤ 40 := by have := HD.out.len1; have := HN1.out; omega
  obtain ⟨p, hp⟩ : ∃ p, p = M.packB fs := ⟨_, rfl⟩
  have hp9 : p.size ≤ 20000 := by rw [hp]; exact M.packB_le fs
  have HP := M.hide hp
  go_wp2_with fail
  refine (iPack_any w1 a2 n2 c2 fs (HF.out.below B1w.out) O2.out (M.ml_below HM.out.1 B1w.out) (HM.out.2.1.below B1w.out) (HM.out.2.2.below B1w.out)).mono ?_
  rintro e w2 ⟨rfl, hb2⟩
  rw [← HP.out]
  have B2 := M.hide (M.se B1.out hb2)
  have B2w := M.hide (M.boxed_below B2.out)
  have k0 : w2.cell? ⟨w.heap.size, 0, none⟩ = some (.slice a1 n1 c1) := M.boxed B2.out 0 _ rfl
  clear hb2 g0 g1 B1 B1w hp
  by_cases hpe : p.size = 0
  · have hpl : p.data.toList = [] := List.eq_nil_of_length_eq_zero (by rw [← Lib.size_eq]; exact hpe)
    have e1 : p.toList.isEmpty = true := by rw [ByteArray.toList_eq, hpl]; rfl
    have e2 : (p.toList == []) = true := by rw [ByteArray.toList_eq, hpl]; rfl
    have HE : Hid (R = ⟨#[]⟩) := by show _ = _; rw [HE0.out]; unfold M.bytesB; rw [if_pos (Or.inl (by rw [← HP.out]; exact hpe))]
    clear hpe hpl
    go_wp2
    go_ret
    exact ⟨by rw [HE.out]; rfl, B2w.out⟩
  have hpl : ¬ p.data.toList = [] := fun e => hpe (by rw [Lib.size_eq, e]; rfl)
  have e1 : p.toList.isEmpty = false := by
    rw [ByteArray.toList_eq]
    cases h : p.data.toList with
    | nil => exact absurd h hpl
    | cons _ _ => rfl
  have e2 : (p.toList == []) = false := by rw [ByteArray.toList_eq, beq_eq_false_iff_ne]; exact hpl
  have HPE := M.hide hpe
  obtain ⟨q, hq⟩ : ∃ q : ByteArray, q = ⟨(M.enc (M.foldZ (n1 : Int))).toArray⟩ := ⟨_, rfl⟩
  have hq9 : q.size ≤ 11 := by rw [hq]; exact M.enc_size _
  have HQ : Hid (q.data.toList = M.enc (M.foldZ (n1 : Int))) := by rw [hq]; rfl
  have CN : Hid (∀ W, Calls Tryz.prog 42 #[.int .i64 n1] W fun e w' => e = .returned (.string q) ∧ Below W.heap.size W w') := fun W => by rw [hq]; exact iPutNum_any n1 W (by omega) (by omega)
  clear hpe hpl hq
  go_wp2_with fail
  refine (CN.out _).mono ?_
  rintro e w3 ⟨rfl, hb3⟩
  have B3 := M.hide (M.se B2.out hb3)
  have m0 : w3.cell? ⟨w.heap.size, 0, none⟩ = some (.slice a1 n1 c1) := M.boxed B3.out 0 _ rfl
  clear hb3 k0 B2 B2w CN
  obtain ⟨v4, w4, hcv, hown4, hb4⟩ := M.own_of_text w3 q (by unfold maxLen; omega)
  have B4 := M.hide (M.se B3.out hb4)
  have O4 : Hid (M.OwnM w4 (w.heap.size + 1) v4 q.data.toList) := hown4.down (by have := B3.out.size; simpa using this)
  have s0 : w4.cell? ⟨w.heap.size, 0, none⟩ = some (.slice a1 n1 c1) := M.boxed B4.out 0 _ rfl
  obtain ⟨av, cv, rfl⟩ := hown4.len
  clear hown4 hb4 m0
  go_wp2
  go_loopw [4, 23] (fun v i wr => ∃ (k : Nat) (L : List UInt8), i = .int .i64 k ∧ k ≤ n1 ∧ L.length ≤ 11 + 161 * k ∧ Hid (L = M.dropsL n1 (ss.take k)) ∧ Hid (M.OwnM wr (w.heap.size + 1) v L) ∧ Hid (Below (w.alloc (.cells #[.slice a1 n1 c1, .slice a2 n2 c2] 29)).heap.size (w.alloc (.cells #[.slice a1 n1 c1, .slice a2 n2 c2] 29)) wr)) (fun _ i _ => n1 - (intOf i).toNat)
  case atStart => exact ⟨0, q.data.toList, rfl, Nat.zero_le _, by rw [← Lib.size_eq]; omega, (show _ = _ by rw [HQ.out]; unfold M.dropsL; simp), O4, B4⟩
  case round =>
    obtain ⟨k, L, rfl, hk, hLk, HL, HO, HBr⟩ := hrel
    by_cases hlt : k < n1
    · have hfl := HN1.out
      have HBw := M.hide (M.boxed_below HBr.out)
      obtain ⟨-, -, -, hfa⟩ := HS.out.below HBw.out
      obtain ⟨b, off, ha1, hat⟩ := hfa (by omega)
      subst ha1
      have c0 := hat k (by omega)
      have hfk := List.getElem?_eq_getElem (l := ss) (i := k) (by omega)
      generalize ss[k]'(by omega) = s at c0 hfk
      have HFK := M.hide hfk
      have hsz : s.size ≤ 150 := M.pathR_size (HD.out.drops.pathAt hfk)
      obtain ⟨x, hx⟩ : ∃ x, x = M.putText s := ⟨_, rfl⟩
      have hx9 : x.size ≤ 161 := by rw [hx]; exact M.putText_le s hsz
      have HX := M.hide hx
      have CT : Hid (Calls Tryz.prog 43 #[.string s] wr fun e w' => e = .returned (.string x) ∧ Below wr.heap.size wr w') := by rw [hx]; exact iPutText_any s wr (by unfold maxLen; omega)
      clear hfk hat hfa hfl hx
      go_wp2_with fail
      refine CT.out.mono ?_
      rintro e w5 ⟨rfl, hb5⟩
      have O5 := HO.out.below hb5
      have B5 := M.se HBr.out hb5
      have hsz5 : w.heap.size + 1 ≤ w5.heap.size := by have := B5.size; simpa using this
      clear hb5 CT c0
      go_wp2_with (at_builtin; refine M.wpList_append_m rfl (.tmp 27) (.tmp 29) 61 9 rfl Tryz.underlying61 Tryz.underlying9 hi hz0 hz1 hz2 _ rfl O5 x rfl ?c1 ?c2 ?c3 ?_)
      case c1 => unfold maxLen; omega
      case c2 => omega
      case c3 => exact hsz5
      intro v6 w6 hown6 hgrow6
      have O6 := M.hide hown6
      have B6 := M.hide (B5.grown hgrow6 (by simpa using hsz5) (fun j hj => by have := (O5.lt j hj).1; simpa using this))
      have HL2 : Hid (L ++ x.data.toList = M.dropsL n1 (ss.take (k + 1))) := by show _ = _; rw [M.dropsL_snoc HFK.out, ← HL.out, HX.out]
      have hl2 : (L ++ x.data.toList).length ≤ 11 + 161 * (k + 1) := by rw [List.length_append, ← Lib.size_eq]; omega
      clear hown6 hgrow6 O5 B5 hsz5
      go_wp2
      go_roundw
      case rel => exact ⟨k + 1, L ++ x.data.toList, by go_num, by omega, hl2, HL2, O6, B6⟩
      case measure => simp [intOf]; omega
    · have HLA : Hid (L = M.dropsL ss.length ss) := by
        have hfl := HN1.out
        show _ = _
        rw [HL.out, List.take_of_length_le (by omega), hfl]
      have O5 := HO.out
      have B5 := HBr.out
      have hsz5 : w.heap.size + 1 ≤ wr.heap.size := by have := B5.size; simpa using this
      have HPD : Hid (∀ Y : List UInt8, Y = L ++ p.data.toList → (Y.length ≤ 20000 → R = ⟨Y.toArray⟩) ∧ (20000 < Y.length → R = ⟨#[]⟩)) := fun Y hY => by
        have hYl : Y.length = (M.dropsL ss.length ss).length + (M.packB fs).size := by rw [hY, List.length_append, ← Lib.size_eq, ← HLA.out, HP.out]
        refine ⟨fun h => ?_, fun h => ?_⟩
        · rw [HE0.out]; unfold M.bytesB
          rw [if_neg (fun hc => by rcases hc with hc | hc; exact HPE.out (by rw [HP.out]; exact hc); omega), hY, HLA.out, HP.out]
        · rw [HE0.out]; unfold M.bytesB
          rw [if_pos (Or.inr (by omega))]
      go_wp2_with (at_builtin; refine M.wpList_append_m rfl (.tmp 32) (.tmp 33) 61 9 rfl Tryz.underlying61 Tryz.underlying9 hi hz0 hz1 hz2 _ rfl O5 p rfl ?d1 ?d2 ?d3 ?_)
      case d1 => unfold maxLen; omega
      case d2 => omega
      case d3 => exact hsz5
      intro v6 w6 hown6 hgrow6
      have hcv6 := hown6.conv
      obtain ⟨a6, c6, rfl⟩ := hown6.len
      have B6w : Hid (Below w.heap.size w w6) := M.boxed_below (B5.grown hgrow6 (by simpa using hsz5) (fun j hj => by have := (O5.lt j hj).1; simpa using this))
      have hYl : (L ++ p.data.toList).length ≤ 30000 := by rw [List.length_append, ← Lib.size_eq]; omega
      have HY := HPD.out _ rfl
      generalize L ++ p.data.toList = Y at hcv6 hYl HY
      obtain ⟨y, hy⟩ : ∃ y : ByteArray, y = ⟨Y.toArray⟩ := ⟨_, rfl⟩
      rw [← hy] at hcv6 HY
      generalize Y.length = z at *
      clear hgrow6 hown6 O5 B5 hsz5 hy
      by_cases h2 : 20000 < z
      · have hE : Hid (R = ⟨#[]⟩) := HY.2 h2
        clear HY hcv6
        go_wp2
        go_ret
        exact ⟨by rw [hE.out]; rfl, B6w.out⟩
      · have hE : Hid (R = y) := HY.1 (by omega)
        clear HY
        go_wp2
        go_ret
        exact ⟨by rw [hE.out]; rfl, B6w.out⟩
end Go.Proofs.YtephjmlcbpfnaaaGreatDoor
