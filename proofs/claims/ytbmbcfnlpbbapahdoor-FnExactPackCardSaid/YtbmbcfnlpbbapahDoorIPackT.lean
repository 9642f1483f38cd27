/-
  What Pack of the program does.
-/
import Derived.Test.YtbmbcfnlpbbapahDoorIEntry
import Derived.Test.YtbmbcfnlpbbapahDoorSPackT
namespace Go.Proofs.YtbmbcfnlpbbapahDoor
open Go.RowKit

theorem M.hid' {p : Prop} (h : p) : Hid p := h

set_option maxRecDepth 100000 in
set_option maxHeartbeats 1200000 in
theorem iPack_any (w : World) (a : Option Addr) (len cap : Nat) (fs : List M.FileD) (h : M.Files w a len cap fs) (hok : ∀ f ∈ fs, M.fok f) (hm : M.ml w) (hw : M.pw w) (ht : M.tz w) :
    Calls Tryd.prog 13 #[.slice a len cap] w fun e w' => e = .returned (.string (M.packB fs)) ∧ Below w.heap.size w w' := by
  have hlm : len ≤ 9223372036854775807 := by obtain ⟨_, h1, h2, _⟩ := h; unfold maxLen at h2; omega
  have HFL : Hid (len = fs.length) := h.1
  have HF : Hid (M.Files w a len cap fs) := h
  have HOK : Hid (∀ f ∈ fs, M.fok f) := hok
  have HM : Hid (M.ml w ∧ M.pw w ∧ M.tz w) := ⟨hm, hw, ht⟩
  obtain ⟨i0, hi, hz0, hz1, hz2⟩ := info_parts Tryd.infoB8
  clear h hok hm hw ht
  by_cases h20 : 20 < len
  · have hE : Hid (M.packB fs = ⟨#[]⟩) := M.packB_no (by rw [← HFL.out]; omega)
    go_enter Tryd.func13, Tryd.ntmps13
    go_wp2
    go_ret
    exact ⟨by rw [hE.out]; rfl, Below.refl _ _⟩
  have d20 : decide (20 < (len : Int)) = false := decide_eq_false (by omega)
  go_enter Tryd.func13, Tryd.ntmps13
  go_wp2
  go_loopw [3, 11] (fun v i wr => ∃ (k : Nat) (L : List UInt8), i = .int .i64 k ∧ k ≤ len ∧ L.length ≤ 3072 * k ∧ Hid (L = M.entriesL (fs.take k)) ∧ Hid (∀ j f, j < k → fs[j]? = some f → M.fileR f = true) ∧ Hid (M.OwnB wr w.heap.size v L) ∧ Hid (Below w.heap.size w wr)) (fun _ i _ => len - (intOf i).toNat)
  case atStart => exact ⟨0, [], rfl, Nat.zero_le _, Nat.le_refl _, rfl, fun j f hj => absurd hj (Nat.not_lt_zero _), ⟨rfl, .inl ⟨rfl, rfl⟩⟩, Below.refl _ _⟩
  case round =>
    obtain ⟨k, L, rfl, hk, hLk, HL, HG, HO, HBr⟩ := hrel
    by_cases hlt : k < len
    · have hfl := HFL.out
      obtain ⟨-, -, -, hfa⟩ := HF.out.below HBr.out
      obtain ⟨b, off, rfl, hat⟩ := hfa (by omega)
      obtain ⟨c0, c1, c2, c3, c4⟩ := hat k (by omega)
      have hfk := List.getElem?_eq_getElem (l := fs) (i := k) (by omega)
      generalize fs[k]'(by omega) = f at c0 c1 c2 c3 c4 hfk
      have HFK : Hid (fs[k]? = some f) := hfk
      have HBx : Hid (Below w.heap.size w (wr.alloc (.cells #[.string f.path, .bool f.dir, .int .i64 f.mode, .int .i64 f.time, .string f.data] 45))) := HBr.out.alloc HBr.out.size _
      have HOx := HO.out.below ((Below.refl wr.heap.size wr).alloc (Nat.le_refl _) (.cells #[.string f.path, .bool f.dir, .int .i64 f.mode, .int .i64 f.time, .string f.data] 45))
      have hC := iFile_any f (wr.alloc (.cells #[.string f.path, .bool f.dir, .int .i64 f.mode, .int .i64 f.time, .string f.data] 45)) (HOK.out f (List.mem_of_getElem? hfk)) (M.ml_below HM.out.1 HBx.out)
      unfold M.fval at hC
      have HOX := M.hid' HOx
      clear HOx
      cases hr : M.fileR f
      · rw [hr] at hC
        have hE : Hid (M.packB fs = ⟨#[]⟩) := M.packB_bad hfk hr
        have HC : Hid (Calls Tryd.prog 26 #[.agg #[.string f.path, .bool f.dir, .int .i64 f.mode, .int .i64 f.time, .string f.data]] (wr.alloc (.cells #[.string f.path, .bool f.dir, .int .i64 f.mode, .int .i64 f.time, .string f.data] 45)) fun e w' => e = .returned (.bool false) ∧ Below (wr.alloc (.cells #[.string f.path, .bool f.dir, .int .i64 f.mode, .int .i64 f.time, .string f.data] 45)).heap.size (wr.alloc (.cells #[.string f.path, .bool f.dir, .int .i64 f.mode, .int .i64 f.time, .string f.data] 45)) w') := hC
        clear hfk hat hfa hfl hC hr
        go_wp2_with fail
        refine HC.out.mono ?_
        rintro e w1 ⟨rfl, hb1⟩
        have HB1 : Hid (Below w.heap.size w w1) := M.s1' HBx.out hb1
        clear hb1
        go_wp2
        go_ret
        exact ⟨by rw [hE.out]; rfl, HB1.out⟩
      · rw [hr] at hC
        have HG2 : Hid (∀ j f, j < k + 1 → fs[j]? = some f → M.fileR f = true) := M.upto_next HG.out hfk hr
        have HRF : Hid (M.fileR f = true) := hr
        have HC : Hid (Calls Tryd.prog 26 #[.agg #[.string f.path, .bool f.dir, .int .i64 f.mode, .int .i64 f.time, .string f.data]] (wr.alloc (.cells #[.string f.path, .bool f.dir, .int .i64 f.mode, .int .i64 f.time, .string f.data] 45)) fun e w' => e = .returned (.bool true) ∧ Below (wr.alloc (.cells #[.string f.path, .bool f.dir, .int .i64 f.mode, .int .i64 f.time, .string f.data] 45)).heap.size (wr.alloc (.cells #[.string f.path, .bool f.dir, .int .i64 f.mode, .int .i64 f.time, .string f.data] 45)) w') := hC
        have hes := M.entryB_size hr
        obtain ⟨en, hen⟩ : ∃ en, en = M.entryB f := ⟨_, rfl⟩
        have HEN : Hid (en = M.entryB f) := hen
        have HCE : Hid (∀ W, Below w.heap.size w W → Calls Tryd.prog 27 #[.agg #[.string f.path, .bool f.dir, .int .i64 f.mode, .int .i64 f.time, .string f.data]] W fun e w' => e = .returned (.string en) ∧ Below W.heap.size W w') := fun W hb => by
          have := iEntry_any f W (M.fileR_bd hr).1 (M.fileR_bd hr).2.1 (M.fileR_bd hr).2.2.1 (M.fileR_bd hr).2.2.2 (HM.out.2.1.below hb) (HM.out.2.2.below hb)
          rw [← hen] at this
          exact this
        rw [← hen] at hes
        clear hfk hat hfa hfl hC hr hen
        go_wp2_with fail
        refine HC.out.mono ?_
        rintro e w1 ⟨rfl, hb1⟩
        have HB1 : Hid (Below w.heap.size w w1) := M.s1' HBx.out hb1
        have HO1 := M.hid' (HOX.out.below hb1)
        have g0 : w1.cell? ⟨wr.heap.size, 0, none⟩ = some (.string f.path) := M.boxed hb1 0 _ rfl
        have g1 : w1.cell? ⟨wr.heap.size, 1, none⟩ = some (.bool f.dir) := M.boxed hb1 1 _ rfl
        have g2 : w1.cell? ⟨wr.heap.size, 2, none⟩ = some (.int .i64 f.mode) := M.boxed hb1 2 _ rfl
        have g3 : w1.cell? ⟨wr.heap.size, 3, none⟩ = some (.int .i64 f.time) := M.boxed hb1 3 _ rfl
        have g4 : w1.cell? ⟨wr.heap.size, 4, none⟩ = some (.string f.data) := M.boxed hb1 4 _ rfl
        clear hb1 c0 c1 c2 c3 c4
        go_wp2_with fail
        refine (HCE.out _ HB1.out).mono ?_
        rintro e w2 ⟨rfl, hb2⟩
        have HO2 := HO1.out.below hb2
        have HB2 : Below w.heap.size w w2 := M.s1' HB1.out hb2
        have hsz2 := HB2.size
        clear hb2 g0 g1 g2 g3 g4
        go_wp2_with (at_builtin; refine Lib.wpList_append_own_string _ rfl (.tmp 18) (.tmp 20) 40 9 rfl w.heap.size 5 i0 Tryd.underlying40 Tryd.underlying9 hi hz0 hz1 hz2 _ _ _ rfl HO2 en rfl ?c1 ?c2 ?c3 ?_)
        case c1 => unfold maxLen; omega
        case c2 => omega
        case c3 => exact hsz2
        intro v' w3 hown' hgrow _
        have HO3 : Hid (M.OwnB w3 w.heap.size v' (L ++ en.data.toList)) := M.OwnB.more hown'
        have HB3 : Hid (Below w.heap.size w w3) := HB2.grown hgrow hsz2 (fun k hk => (World.ownsRow.lt HO2 k hk).1)
        have HL2 : Hid (L ++ en.data.toList = M.entriesL (fs.take (k + 1))) := by show _ = _; rw [M.entriesL_snoc HFK.out, ← HL.out, HEN.out]
        have hl2 : (L ++ en.data.toList).length ≤ 3072 * (k + 1) := by rw [List.length_append, ← Lib.size_eq]; omega
        clear hgrow hown' HO2 HB2 hsz2
        go_wp2
        go_roundw
        case rel => exact ⟨k + 1, L ++ en.data.toList, by go_num, by omega, hl2, HL2, HG2, HO3, HB3⟩
        case measure => simp [intOf]; omega
    · have HA : Hid (∀ f ∈ fs, M.fileR f = true) := M.upto_all HG.out (by rw [← HFL.out]; omega)
      have HE : Hid (⟨(L ++ (M.zerosB 1024).data.toList).toArray⟩ = M.archB fs) := by
        show _ = _
        rw [HL.out, List.take_of_length_le (by rw [← HFL.out]; omega)]
        unfold M.archB
        rw [← M.ba_L, ← M.ba_toL]
      have HZ : Hid (Calls Tryd.prog 28 #[.int .i64 2] wr fun e w' => e = .returned (.string (M.zerosB 1024)) ∧ Below wr.heap.size wr w') := iZBlocks_any 2 wr (by decide)
      have hz : (M.zerosB 1024).size = 1024 := M.zerosB_size _
      have HS : Hid (∀ Y : List UInt8, ⟨Y.toArray⟩ = M.archB fs → (Y.length ≤ 20000 → M.packB fs = ⟨Y.toArray⟩) ∧ (20000 < Y.length → M.packB fs = ⟨#[]⟩)) := fun Y hY => by
        have hs : (M.archB fs).size = Y.length := by rw [← hY, Lib.size_eq]
        exact ⟨fun hh => by rw [hY]; exact M.packB_yes (by rw [← HFL.out]; omega) HA.out (by omega), fun hh => M.packB_no (by omega)⟩
      generalize M.zerosB 1024 = z at hz HE HZ
      go_wp2_with fail
      refine HZ.out.mono ?_
      rintro e w1 ⟨rfl, hb1⟩
      have HO1 := HO.out.below hb1
      have HB1 : Below w.heap.size w w1 := M.s1' HBr.out hb1
      have hsz1 := HB1.size
      clear hb1
      go_wp2_with (at_builtin; refine Lib.wpList_append_own_string _ rfl (.tmp 23) (.tmp 24) 40 9 rfl w.heap.size 5 i0 Tryd.underlying40 Tryd.underlying9 hi hz0 hz1 hz2 _ _ _ rfl HO1 z rfl ?d1 ?d2 ?d3 ?_)
      case d1 => unfold maxLen; omega
      case d2 => omega
      case d3 => exact hsz1
      intro v' w2 hown' hgrow _
      have hO2 : M.OwnB w2 w.heap.size v' (L ++ z.data.toList) := M.OwnB.more (by rw [hz]; exact hown')
      have HB2 : Hid (Below w.heap.size w w2) := HB1.grown hgrow hsz1 (fun k hk => (World.ownsRow.lt HO1 k hk).1)
      have hcv := hO2.conv (Below.refl _ _)
      obtain ⟨a', cap', rfl⟩ := hO2.len
      have hYl : (L ++ z.data.toList).length ≤ 70000 := by rw [List.length_append, ← Lib.size_eq]; omega
      have HY := HS.out _ HE.out
      generalize L ++ z.data.toList = Y at hcv hYl HY
      obtain ⟨y, hy⟩ : ∃ y : ByteArray, y = ⟨Y.toArray⟩ := ⟨_, rfl⟩
      rw [← hy] at hcv HY
      generalize Y.length = q at *
      clear hgrow hown' HO1 HB1 hsz1 hO2 hy
      by_cases h2 : 20000 < q
      · have hE : Hid (M.packB fs = ⟨#[]⟩) := HY.2 h2
        clear HY hcv
        go_wp2
        go_ret
        exact ⟨by rw [hE.out]; rfl, HB2.out⟩
      · have hE : Hid (M.packB fs = y) := HY.1 (by omega)
        clear HY
        go_wp2
        go_ret
        exact ⟨by rw [hE.out]; rfl, HB2.out⟩
end Go.Proofs.YtbmbcfnlpbbapahDoor
