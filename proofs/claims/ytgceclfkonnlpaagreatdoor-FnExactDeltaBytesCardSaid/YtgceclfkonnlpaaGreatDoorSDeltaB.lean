/-
  What l04Bytes and DeltaBytes of the specification do.
-/
import Derived.Test.YtgceclfkonnlpaaGreatDoorBytesMath
import Derived.Test.YtgceclfkonnlpaaGreatDoorSDeltaR
import Derived.Test.YtgceclfkonnlpaaGreatDoorPart12
import Derived.Test.YtgceclfkonnlpaaGreatDoorPart13
namespace Go.Proofs.YtgceclfkonnlpaaGreatDoor
open Go.RowKit

theorem M.app_mk (x y : List UInt8) : (⟨x.toArray⟩ : ByteArray) ++ (⟨y.toArray⟩ : ByteArray) = ⟨(x ++ y).toArray⟩ := by
  apply ByteArray.ext
  rw [ByteArray.data_append]
  simp
theorem M.back (s : ByteArray) : s = ⟨s.data.toList.toArray⟩ := by cases s; rfl

set_option maxRecDepth 100000 in
set_option maxHeartbeats 1600000 in
theorem sL04B_any (w : World) (a1 a2 : Option Addr) (n1 c1 n2 c2 : Nat) (ss : List ByteArray) (fs : List M.FileD) (h1 : M.Strs w a1 n1 c1 ss) (h2 : M.Files w a2 n2 c2 fs) (o2 : ∀ f ∈ fs, M.fok f) (hd : M.DeltaR ss fs) :
    Calls Tryz.prog 40 #[.agg #[.slice a1 n1 c1, .slice a2 n2 c2]] w fun e w' => e = .returned (.string (M.bytesB ss fs)) ∧ Below w.heap.size w w' := by
  have HN1 : Hid (n1 = ss.length) := h1.1
  have HS := M.hidf h1
  have HF := M.hidf h2
  have O2 := M.hidf o2
  have HD := M.hidf hd
  have HB : Hid (∀ o, Below w.heap.size w (w.alloc o)) := fun o => (Below.refl _ _).alloc (Nat.le_refl _) _
  have hn40 : n1 ≤ 40 := by have := HD.out.len1; have := HN1.out; omega
  clear h1 h2 o2 hd
  obtain ⟨R, hRR⟩ : ∃ R, R = M.bytesB ss fs := ⟨_, rfl⟩
  rw [← hRR]
  have HE0 := M.hidf hRR
  clear hRR
  obtain ⟨q, hq⟩ : ∃ q : ByteArray, q = ⟨(M.enc (M.foldZ (n1 : Int))).toArray⟩ := ⟨_, rfl⟩
  have hq9 : q.size ≤ 11 := by rw [hq]; exact M.enc_size _
  have HQ : Hid (q.data.toList = M.enc (M.foldZ (n1 : Int))) := by rw [hq]; rfl
  have CN : Hid (∀ W, Calls Tryz.prog 69 #[.int .i64 n1] W fun e w' => e = .returned (.string q) ∧ Below W.heap.size W w') := fun W => by rw [hq]; exact sPutNum_any n1 W (by omega) (by omega)
  clear hq
  go_enter Tryz.func40, Tryz.ntmps40
  go_wp2_with fail
  refine (CN.out _).mono ?_
  rintro e w1 ⟨rfl, hb1⟩
  have B1 := M.hidf hb1
  clear hb1 CN
  go_wp2
  go_loopw [3, 4] (fun v i wr => ∃ (k : Nat) (t : ByteArray), i = .int .i64 k ∧ v = .string t ∧ k ≤ n1 ∧ t.size ≤ 11 + 161 * k ∧ Hid (t.data.toList = M.dropsL n1 (ss.take k)) ∧ Hid (Below (w.alloc (.cells #[.slice a1 n1 c1, .slice a2 n2 c2] 29)).heap.size (w.alloc (.cells #[.slice a1 n1 c1, .slice a2 n2 c2] 29)) wr)) (fun _ i _ => n1 - (intOf i).toNat)
  case atStart => exact ⟨0, q, rfl, rfl, Nat.zero_le _, by omega, (show _ = _ by rw [HQ.out]; unfold M.dropsL; simp), B1⟩
  case round =>
    obtain ⟨k, t, rfl, rfl, hk, htk, HT, HBr⟩ := hrel
    have g0 : wr.cell? ⟨w.heap.size, 0, none⟩ = some (.slice a1 n1 c1) := M.boxed HBr.out 0 _ rfl
    have g1 : wr.cell? ⟨w.heap.size, 1, none⟩ = some (.slice a2 n2 c2) := M.boxed HBr.out 1 _ rfl
    have HBw := M.hidf (M.boxed_below HBr.out)
    by_cases hlt : k < n1
    · have hfl := HN1.out
      obtain ⟨-, -, -, hfa⟩ := HS.out.below HBw.out
      obtain ⟨b, off, ha1, hat⟩ := hfa (by omega)
      subst ha1
      have c0 := hat k (by omega)
      have hfk := List.getElem?_eq_getElem (l := ss) (i := k) (by omega)
      generalize ss[k]'(by omega) = s at c0 hfk
      have HFK := M.hidf hfk
      have hsz : s.size ≤ 150 := M.pathR_size (HD.out.drops.pathAt hfk)
      obtain ⟨x, hx⟩ : ∃ x, x = M.putText s := ⟨_, rfl⟩
      have hx9 : x.size ≤ 161 := by rw [hx]; exact M.putText_le s hsz
      have HX := M.hidf hx
      have CT : Hid (Calls Tryz.prog 70 #[.string s] wr fun e w' => e = .returned (.string x) ∧ Below wr.heap.size wr w') := by rw [hx]; exact sPutText_any s wr (by unfold maxLen; omega)
      have had := fun W => run_string_add_sum (P := Tryz.prog) (w := W) t x (by omega)
      clear hfk hat hfa hfl hx
      go_wp2_with fail
      refine CT.out.mono ?_
      rintro e w5 ⟨rfl, hb5⟩
      have B5 := M.hidf (M.sf HBr.out hb5)
      have HT2 : Hid ((t ++ x).data.toList = M.dropsL n1 (ss.take (k + 1))) := by
        show _ = _
        rw [M.dropsL_snoc HFK.out, ← HT.out, ← HX.out, ByteArray.data_append, Array.toList_append]
      have hl2 : (t ++ x).size ≤ 11 + 161 * (k + 1) := by rw [ByteArray.size_append]; omega
      clear hb5 CT c0
      go_wp2
      go_roundw
      case rel => exact ⟨k + 1, t ++ x, by go_num, rfl, by omega, hl2, HT2, B5⟩
      case measure => simp [intOf]; omega
    · have HTA : Hid (t.data.toList = M.dropsL ss.length ss) := by
        have hfl := HN1.out
        show _ = _
        rw [HT.out, List.take_of_length_le (by omega), hfl]
      obtain ⟨p, hp⟩ : ∃ p, p = M.packB fs := ⟨_, rfl⟩
      have hp9 : p.size ≤ 20000 := by rw [hp]; exact M.packB_le fs
      have HP := M.hidf hp
      have CP : Hid (Calls Tryz.prog 71 #[.slice a2 n2 c2] wr fun e w' => e = .returned (.string p) ∧ Below wr.heap.size wr w') := by rw [hp]; exact sPack_any wr a2 n2 c2 fs (HF.out.below HBw.out) O2.out
      have hts : t.size = (M.dropsL ss.length ss).length := by rw [Lib.size_eq, HTA.out]
      have HEc : Hid ((p.size = 0 → R = ⟨#[]⟩) ∧ (20000 < t.size + p.size → R = ⟨#[]⟩) ∧ (¬ p.size = 0 → ¬ 20000 < t.size + p.size → R = t ++ p)) := by
        refine ⟨fun h => ?_, fun h => ?_, fun h h' => ?_⟩
        · rw [HE0.out]; unfold M.bytesB; rw [if_pos (Or.inl (by rw [← HP.out]; exact h))]
        · rw [HE0.out]; unfold M.bytesB; rw [if_pos (Or.inr (by rw [← HP.out, ← hts]; exact h))]
        · rw [HE0.out]; unfold M.bytesB
          rw [if_neg (fun hc => by rcases hc with hc | hc; exact h (by rw [HP.out]; exact hc); rw [← HP.out, ← hts] at hc; exact h' hc), ← HTA.out, ← HP.out, ← M.app_mk, ← M.back, ← M.back]
      have had := fun W => run_string_add_sum (P := Tryz.prog) (w := W) t p (by omega)
      clear hp hts
      go_wp2_with fail
      refine CP.out.mono ?_
      rintro e w5 ⟨rfl, hb5⟩
      have B5 : Hid (Below w.heap.size w w5) := M.boxed_below (M.sf HBr.out hb5)
      clear hb5 CP g0 g1
      by_cases hpe : p.size = 0
      · have hpl : p.data.toList = [] := List.eq_nil_of_length_eq_zero (by rw [← Lib.size_eq]; exact hpe)
        have e1 : p.toList.isEmpty = true := by rw [ByteArray.toList_eq, hpl]; rfl
        have e2 : (p.toList == []) = true := by rw [ByteArray.toList_eq, hpl]; rfl
        have hE : Hid (R = ⟨#[]⟩) := HEc.out.1 hpe
        clear hpe hpl
        go_wp2
        go_ret
        exact ⟨by rw [hE.out]; rfl, B5.out⟩
      have hpl : ¬ p.data.toList = [] := fun e => hpe (by rw [Lib.size_eq, e]; rfl)
      have e1 : p.toList.isEmpty = false := by
        rw [ByteArray.toList_eq]
        cases h : p.data.toList with
        | nil => exact absurd h hpl
        | cons _ _ => rfl
      have e2 : (p.toList == []) = false := by rw [ByteArray.toList_eq, beq_eq_false_iff_ne]; exact hpl
      by_cases h2 : 20000 < t.size + p.size
      · have hE : Hid (R = ⟨#[]⟩) := HEc.out.2.1 h2
        have d2 : decide (20000 < (t.size : Int) + (p.size : Int)) = true := decide_eq_true (by omega)
        clear hpe hpl
        go_wp2
        go_ret
        exact ⟨by rw [hE.out]; rfl, B5.out⟩
      · have hE : Hid (R = t ++ p) := HEc.out.2.2 hpe h2
        have d2 : decide (20000 < (t.size : Int) + (p.size : Int)) = false := decide_eq_false (by omega)
        clear hpe hpl
        go_wp2
        go_ret
        exact ⟨by rw [hE.out]; rfl, B5.out⟩

set_option maxRecDepth 100000 in
set_option maxHeartbeats 800000 in
theorem sDeltaB_any (w : World) (a1 a2 : Option Addr) (n1 c1 n2 c2 : Nat) (ss : List ByteArray) (fs : List M.FileD) (h1 : M.Strs w a1 n1 c1 ss) (h2 : M.Files w a2 n2 c2 fs) (o1 : ∀ s ∈ ss, s.size ≤ maxLen) (o2 : ∀ f ∈ fs, M.fok f) (r : Bool) (hr : r = true ↔ M.DeltaR ss fs) :
    Calls Tryz.prog 13 #[.agg #[.slice a1 n1 c1, .slice a2 n2 c2]] w fun e w' => e = .returned (.string (if r = true then M.bytesB ss fs else ⟨#[]⟩)) ∧ Below w.heap.size w w' := by
  have HS := M.hidf h1
  have HF := M.hidf h2
  have O1 := M.hidf o1
  have O2 := M.hidf o2
  have HR := M.hidf hr
  have HB : Hid (∀ o, Below w.heap.size w (w.alloc o)) := fun o => (Below.refl _ _).alloc (Nat.le_refl _) _
  clear h1 h2 o1 o2 hr
  obtain ⟨R, hRR⟩ : ∃ R, R = if r = true then M.bytesB ss fs else (⟨#[]⟩ : ByteArray) := ⟨_, rfl⟩
  rw [← hRR]
  have HRR := M.hidf hRR
  clear hRR
  go_enter Tryz.func13, Tryz.ntmps13
  go_wp2_with fail
  refine (sDeltaR_any _ a1 a2 n1 c1 n2 c2 ss fs (HS.out.below (HB.out _)) (HF.out.below (HB.out _)) O1.out O2.out).mono ?_
  rintro e w1 ⟨v, rfl, hv, hb1⟩
  obtain rfl : r = v := by rw [Bool.eq_iff_iff, HR.out, hv]
  have B1 := M.hidf hb1
  have B1w := M.hidf (M.boxed_below hb1)
  have g0 : w1.cell? ⟨w.heap.size, 0, none⟩ = some (.slice a1 n1 c1) := M.boxed hb1 0 _ rfl
  have g1 : w1.cell? ⟨w.heap.size, 1, none⟩ = some (.slice a2 n2 c2) := M.boxed hb1 1 _ rfl
  clear hv hb1
  cases r
  · have HE : Hid (R = ⟨#[]⟩) := by show _ = _; rw [HRR.out]; rfl
    go_wp2
    go_ret
    exact ⟨by rw [HE.out]; rfl, B1w.out⟩
  have HD := M.hidf (HR.out.1 rfl)
  have HE0 : Hid (R = M.bytesB ss fs) := by show _ = _; rw [HRR.out]; rfl
  clear HR HRR
  go_wp2_with fail
  refine (sL04B_any w1 a1 a2 n1 c1 n2 c2 ss fs (HS.out.below B1w.out) (HF.out.below B1w.out) O2.out HD.out).mono ?_
  rintro e w2 ⟨rfl, hb2⟩
  rw [← HE0.out]
  have B2 : Hid (Below w.heap.size w w2) := M.sf B1w.out hb2
  clear hb2
  go_wp2
  go_ret
  exact ⟨rfl, B2.out⟩
end Go.Proofs.YtgceclfkonnlpaaGreatDoor
