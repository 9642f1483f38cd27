/-
  The law of promise 2: a sealed text comes back; with one byte turned it is refused; a CRC goes on from text to text.
-/
import Derived.Test.YtbmbcfnlpbbapaaDoorDrawSeals
import Derived.Test.YtbmbcfnlpbbapaaDoorSealRound
import Derived.Test.YtbmbcfnlpbbapaaDoorSealSpec
import Derived.Laws.IdiomStrings
import Derived.Deep.RegionWith
namespace Go.Proofs.YtbmbcfnlpbbapaaDoor
open Go.RowKit

theorem M.IsRow.below {W W' : World} {a : Option Addr} {len cap : Nat} (h : M.IsRow W a len cap) (hb : Below W.heap.size W W') : M.IsRow W' a len cap :=
  h.kept (row := none) ⟨hb.os, hb.tape, hb.output, hb.size, fun k hk _ => hb.block k hk⟩ (fun _ x _ => by simp)

/-- '[]byte(s)': a new row of the text's bytes. -/
theorem M.bytes_new {P : Program} (w : World) (src dst e : TypeId) (s : ByteArray) (hs : P.underlying src = some .string) (hd : P.underlying dst = some (.slice e)) (he : P.underlying e = some (.int .u8)) :
    ∃ (w1 : World) (cap : Nat), (convert src dst (.string s)).run P w = .ok (.slice (some ⟨w.heap.size, 0, none⟩) s.size cap) w1 ∧ Below w.heap.size w w1 ∧
      (∀ i, i < s.size → w1.cell? ⟨w.heap.size, i, none⟩ = some (.int .u8 (s.data.toList.getD i 0).toNat)) ∧ (∀ i, i < s.size → w1.frozen? ⟨w.heap.size, i, none⟩ = false) := by
  refine ⟨_, _, run_bytes_of_string w src dst e s hs hd he, ⟨rfl, rfl, rfl, by simp, fun k hk => Below.heap_alloc w.drew _ k hk⟩, ?_, ?_⟩
  · intro i hi
    have h1 := World.cell?_alloc_mark w.drew (bytesRow s (grownCap w s.size 0 e)) e ((bytesRow s (grownCap w s.size 0 e)).size, (bytesRow s (grownCap w s.size 0 e)).size + 1) i
    refine h1.trans ?_
    have hi' : i < s.data.size := hi
    unfold bytesRow
    rw [Array.getElem?_append_left (by simpa using hi')]
    simp [List.getD_eq_getElem?_getD]
    exact ⟨s.data[i], Array.getElem?_eq_getElem hi', by rw [Array.getElem?_eq_getElem hi']; rfl⟩
  · intro i hi
    have h1 := World.frozen?_alloc_mark w.drew (bytesRow s (grownCap w s.size 0 e)) e (bytesRow s (grownCap w s.size 0 e)).size ((bytesRow s (grownCap w s.size 0 e)).size + 1) i
    refine h1.trans ?_
    have hi' : i < s.data.size := hi
    have : i < (bytesRow s (grownCap w s.size 0 e)).size := by unfold bytesRow; simp; omega
    simp; omega

theorem M.xor_byte (c : UInt8) (v : Int) (h0 : 0 ≤ v) (h1 : v < 255) : ∃ d : UInt8, bits .xor .u8 (c.toNat : Int) (1 + v) = (d.toNat : Int) ∧ c ≠ d := by
  obtain ⟨m, hm⟩ := Int.eq_ofNat_of_zero_le (show 0 ≤ 1 + v by omega)
  have hc := c.toNat_lt
  have hx : c.toNat ^^^ m < 256 := Nat.xor_lt_two_pow (n := 8) hc (by omega)
  refine ⟨UInt8.ofNat (c.toNat ^^^ m), ?_, fun e => ?_⟩
  · rw [hm, u8_xor_nat c.toNat m hc (by omega), M.toNat_ofNat hx]
  · have := congrArg UInt8.toNat e
    rw [M.toNat_ofNat hx] at this
    have h0 : c.toNat ^^^ 0 = c.toNat ^^^ m := by rw [Nat.xor_zero]; exact this
    have := M.xor_left h0
    omega
theorem M.set_parts (l : List UInt8) (k : Nat) (d : UInt8) (hk : k < l.length) : l = l.take k ++ l.getD k 0 :: l.drop (k + 1) ∧ l.set k d = l.take k ++ d :: l.drop (k + 1) := by
  refine ⟨?_, ?_⟩
  · rw [List.getD_eq_getElem?_getD, List.getElem?_eq_getElem hk, Option.getD_some, ← List.drop_eq_getElem_cons hk, List.take_append_drop]
  · rw [List.set_eq_take_append_cons_drop, if_pos hk]
/-- 'string(b)' behind the store. -/
theorem M.conv_set {P : Program} {w4 w7 : World} {src dst e : TypeId} {H k cap : Nat} {S : ByteArray} {d : UInt8} (hs : P.underlying src = some (.slice e)) (he : P.underlying e = some (.int .u8)) (hd : P.underlying dst = some .string)
    (hk : k < S.size) (hcell : ∀ i, i < S.size → w4.cell? ⟨H, i, none⟩ = some (.int .u8 (S.data.toList.getD i 0).toNat)) (h7 : ∀ i, w7.cell? ⟨H, i, none⟩ = (w4.setCell ⟨H, k, none⟩ (.int .u8 d.toNat)).cell? ⟨H, i, none⟩) :
    (convert src dst (.slice (some ⟨H, 0, none⟩) S.size cap)).run P w7 = .ok (.string ⟨(S.data.toList.set k d).toArray⟩) w7 := by
  have hl : (S.data.toList.set k d).length = S.size := by rw [List.length_set, ← Lib.size_eq]
  have := run_convert_bytes_back (P := P) w7 src dst e ⟨H, 0, none⟩ cap (S.data.toList.set k d) hs he hd (fun j hj => by
    rw [Addr.add_lit, Nat.zero_add, h7]
    have hj' : j < S.size := by rw [← hl]; exact hj
    by_cases e : j = k
    · subst e
      rw [World.cell?_setCell_same _ _ _ (hcell j hj'), List.getElem_set_self]
    · rw [World.cell?_setCell_other _ _ _ _ (by intro h; simp only [Addr.mk.injEq] at h; omega), hcell j hj', List.getElem_set_ne (by omega), List.getD_eq_getElem?_getD, List.getElem?_eq_getElem (by rw [← Lib.size_eq]; exact hj')]
      rfl)
  rwa [hl] at this

theorem Tryd.fieldText (x : ByteArray) (y z : Int) (W : World) : (Instr.field 31 (.agg #[.string x, .int .i64 y, .int .i64 z]) 2).run Tryd.prog W = .ok (.int .i64 z) W := by kernel_rfl

set_option maxRecDepth 100000 in
set_option maxHeartbeats 1600000 in
theorem fnSeal_in (w : World) (a0 a1 : Option Addr) (len0 cap0 len1 cap1 : Nat) (hR0 : M.IsRow w a0 len0 cap0) (hR1 : M.IsRow w a1 len1 cap1) (hg : M.errT w) (hl0 : len0 ≤ 1048576) (hl1 : len1 ≤ 1048576) :
    Calls Tryd.prog 4 #[.slice a0 len0 cap0, .slice a1 len1 cap1] w fun e w' => e = .returned (.bool true) ∧ Below w.heap.size w w' := by
  have HR0 : Hid (M.IsRow w a0 len0 cap0) := hR0
  have HR1 : Hid (M.IsRow w a1 len1 cap1) := hR1
  have HG : Hid (M.errT w) := hg
  clear hR0 hR1 hg
  have d0 : decide ((1048576 : Int) < (len0 : Int)) = false := decide_eq_false (by omega)
  have d1 : decide ((1048576 : Int) < (len1 : Int)) = false := decide_eq_false (by omega)
  go_enter Tryd.func4, Tryd.ntmps4
  go_wp2_with fail
  refine (drawSeal_any _ a0 len0 cap0 HR0.out).mono ?_
  rintro e w1 ⟨t, rfl, ht, hb1⟩
  have HB1 : Hid (Below w.heap.size w w1) := hb1
  have htm : t.size ≤ maxLen := by unfold maxLen; omega
  have HTM : Hid (t.size ≤ maxLen) := htm
  clear hb1 htm
  have ft := Tryd.fieldText
  by_cases hbig : 19996 < t.size
  · have hP := fun W => iSeal_any t W HTM.out
    have hQ := fun W => sSeal_any t W HTM.out
    rw [M.sealT_big hbig] at hP hQ
    have HP : Hid _ := hP
    have HQ : Hid _ := hQ
    clear hP hQ
    go_wp2_with (first | (go_at_call 16; refine (HP.out _).mono ?_; rintro e w2 ⟨rfl, hb2⟩) | (go_at_call 17; refine (HQ.out _).mono ?_; rintro e w3 ⟨rfl, hb3⟩))
    have HBB : Hid (Below w.heap.size w w3) := (HB1.out.trans (hb2.mono HB1.out.size)).trans (hb3.mono (by have := HB1.out.size; have := hb2.size; omega))
    clear hb2 hb3 HP HQ HB1
    refine (drawCrcMore_any _ a1 len1 cap1 (HR1.out.below HBB.out)).mono ?_
    rintro e wA ⟨crc, u, rfl, hc1, hc2, hu8, hbA⟩
    have HBA : Hid (Below w.heap.size w wA) := HBB.out.trans (hbA.mono HBB.out.size)
    have hum : u.size ≤ maxLen := by unfold maxLen; omega
    have HUM : Hid (u.size ≤ maxLen) := hum
    clear hbA hum
    by_cases hfit : 20000 < t.size + u.size
    · have f1 : decide ((20000 : Int) < (t.size : Int) + (u.size : Int)) = true := decide_eq_true (by omega)
      go_wp2
      go_ret
      exact ⟨rfl, HBA.out⟩
    · have hgo := M.crc_goes_on t u hfit
      have f1 : decide ((20000 : Int) < (t.size : Int) + (u.size : Int)) = false := decide_eq_false (by omega)
      have hadd := fun W => run_string_add_sum (P := Tryd.prog) (w := W) t u (by omega)
      have htu : (t ++ u).size ≤ maxLen := by rw [ByteArray.size_append]; unfold maxLen; omega
      obtain ⟨r1, r2⟩ := M.crcMore_range t
      have c1 := fun W => iCrcMore_any crc u W hc1 hc2 HUM.out
      have c2 := fun W => sCrcMore_any crc u W hc1 hc2 HUM.out
      have c3 := fun W => iCrc_any t W HTM.out
      have c4 := fun W => iCrcMore_any (M.crcMore 0 t) u W (by omega) (by omega) HUM.out
      have c5 := fun W => iCrc_any (t ++ u) W htu
      rw [hgo] at c4
      generalize M.crcMore 0 t = C at c3 c4
      generalize M.crcMore 0 (t ++ u) = D at c4 c5
      generalize M.crcMore crc u = E at c1 c2
      have C1 : Hid _ := c1
      have C2 : Hid _ := c2
      have C3 : Hid _ := c3
      have C4 : Hid _ := c4
      have C5 : Hid _ := c5
      clear c1 c2 c3 c4 c5 hgo r1 r2 htu
      go_wp2_with fail
      refine (C1.out _).mono ?_
      rintro e wB ⟨rfl, rfl⟩
      go_wp2_with fail
      refine (C2.out _).mono ?_
      rintro e wC ⟨rfl, rfl⟩
      go_wp2_with fail
      refine (C3.out _).mono ?_
      rintro e wD ⟨rfl, rfl⟩
      go_wp2_with fail
      refine (C4.out _).mono ?_
      rintro e wE ⟨rfl, rfl⟩
      go_wp2_with fail
      refine (C5.out _).mono ?_
      rintro e wF ⟨rfl, rfl⟩
      go_wp2
      go_ret
      exact ⟨rfl, HBA.out⟩
  · have hP := fun W => iSeal_any t W HTM.out
    have hQ := fun W => sSeal_any t W HTM.out
    have hz := M.seal_size hbig
    have hbk := M.seal_back hbig
    have htn := fun s' x y c d => M.seal_turned (s' := s') hbig x y c d
    generalize M.sealT t = S at hP hQ hz hbk htn
    have HP : Hid _ := hP
    have HQ : Hid _ := hQ
    have HBK : Hid _ := hbk
    have HTN : Hid _ := htn
    have hS4 : 4 ≤ S.size := by omega
    have hS2 : S.size ≤ 20000 := by omega
    have hSe : S.toList.isEmpty = false := by
      rw [ByteArray.toList_eq]
      cases hq : S.data.toList with
      | nil => rw [Lib.size_eq, hq] at hS4; simp at hS4
      | cons a b => rfl
    clear hP hQ hz hbk htn
    go_wp2_with fail
    refine (HP.out _).mono ?_
    rintro e w2 ⟨rfl, hb2⟩
    go_wp2_with fail
    refine (HQ.out _).mono ?_
    rintro e w3 ⟨rfl, hb3⟩
    have HB3 : Hid (Below w.heap.size w w3) := (HB1.out.trans (hb2.mono HB1.out.size)).trans (hb3.mono (by have := HB1.out.size; have := hb2.size; omega))
    obtain ⟨w4, cap, hcv, hb4, hcell, hfree⟩ := M.bytes_new (P := Tryd.prog) w3 9 22 5 S Tryd.underlying9 Tryd.underlying22 Tryd.underlying5
    have HB4 : Hid (Below w.heap.size w w4) := HB3.out.trans (hb4.mono HB3.out.size)
    have hw43 : w3.heap.size < w4.heap.size := World.block_lt_of_cell? w4 ⟨w3.heap.size, 0, none⟩ (hcell 0 (by omega))
    have HC : Hid _ := hcell
    have HF : Hid _ := hfree
    clear hb2 hb3 hb4 HP HQ HB1 hcell hfree
    go_wp2_with fail
    refine (lwAt_any _ a1 len1 cap1 0 (S.size : Int) (HR1.out.below HB4.out) (by omega) (by omega)).mono ?_
    rintro e w5 ⟨k, rfl, hk, rfl⟩
    obtain ⟨hk0, hk1, _⟩ := hk
    have hkS := hk1 (by omega)
    obtain ⟨k, rfl⟩ := Int.eq_ofNat_of_zero_le hk0
    have ck := HC.out k (by omega)
    have fk := HF.out k (by omega)
    obtain ⟨c, hc⟩ : ∃ c : UInt8, c = S.data.toList.getD k 0 := ⟨_, rfl⟩
    rw [← hc] at ck
    have HCC : Hid (c = S.data.toList.getD k 0) := hc
    have HRD : Hid (M.IsRow w4.drew a1 len1 cap1) := HR1.out.below HB4.out.drew
    clear hk1 hcv hc
    go_wp2_with fail
    go_region_with (go_at_call 18; refine (lwAt_any _ a1 len1 cap1 1 255 (by exact HRD.out) (by omega) (by omega)).mono ?_; rintro e w6 ⟨v, rfl, hv, rfl⟩; obtain ⟨v0, v1, _⟩ := hv; have v2 := v1 (by omega); have hwi : IntKind.i64.wrap (1 + v) = 1 + v := (by rw [IntKind.wrap_i64]; omega); have hwu : IntKind.u8.wrap (1 + v) = 1 + v := (by rw [IntKind.wrap_u8]; omega))
    all_goals
      go_wp2_with fail
      obtain ⟨d, hd, hcd⟩ := M.xor_byte c v v0 v2
      rw [hd]
      have HB5 : Hid (Below w.heap.size w (w4.setCell ⟨w3.heap.size, k, none⟩ (.int .u8 d.toNat)).drew) := (HB4.out.setCell HB3.out.size _).drew
      have hSm : S.size ≤ maxLen := by unfold maxLen; omega
      have hU1 := fun W hg => iUnseal_any S W hSm hg
      rw [HBK.out] at hU1
      refine (hU1 _ (M.errT_below HG.out HB5.out)).mono ?_
      rintro e w7 ⟨rfl, hb7⟩
      have HB7 : Hid (Below w.heap.size w w7) := HB5.out.trans (hb7.mono HB5.out.size)
      have hcb := M.conv_set (P := Tryd.prog) (w7 := w7) (cap := cap) Tryd.underlying22 Tryd.underlying5 Tryd.underlying9 (show k < S.size by omega) HC.out (d := d) (fun i => by
        rw [hb7.cell (p := ⟨w3.heap.size, i, none⟩) (by simp [World.setCell]; omega)]; rfl)
      have hsp := M.set_parts S.data.toList k d (by rw [← Lib.size_eq]; omega)
      rw [← HCC.out] at hsp
      have hu2 := HTN.out ⟨(S.data.toList.set k d).toArray⟩ _ _ _ _ hsp.1 hsp.2 hcd
      have hS'm : (⟨(S.data.toList.set k d).toArray⟩ : ByteArray).size ≤ maxLen := by rw [Lib.size_eq]; simp only [List.length_set]; rw [← Lib.size_eq]; exact hSm
      have hU2 := fun W hg => iUnseal_any ⟨(S.data.toList.set k d).toArray⟩ W hS'm hg
      rw [hu2] at hU2
      generalize (⟨(S.data.toList.set k d).toArray⟩ : ByteArray) = S' at hcb hU2
      have HU2 : Hid _ := hU2
      clear hU1 hU2 hu2 hsp hb7 hS'm hSm hd hcd ck fk hwi hwu v1 v2
      go_wp2_with fail
      refine (HU2.out _ (M.errT_below HG.out HB7.out)).mono ?_
      rintro e w8 ⟨rfl, hb8⟩
      have HBB : Hid (Below w.heap.size w w8) := HB7.out.trans (hb8.mono HB7.out.size)
      clear hb8 HU2 hcb
      go_wp2_with fail
      refine (drawCrcMore_any _ a1 len1 cap1 (HR1.out.below HBB.out)).mono ?_
      rintro e wA ⟨crc, u, rfl, hc1, hc2, hu8, hbA⟩
      have HBA : Hid (Below w.heap.size w wA) := HBB.out.trans (hbA.mono HBB.out.size)
      have hum : u.size ≤ maxLen := by unfold maxLen; omega
      have HUM : Hid (u.size ≤ maxLen) := hum
      clear hbA hum
      by_cases hfit : 20000 < t.size + u.size
      · have f1 : decide ((20000 : Int) < (t.size : Int) + (u.size : Int)) = true := decide_eq_true (by omega)
        go_wp2
        go_ret
        exact ⟨rfl, HBA.out⟩
      · have hgo := M.crc_goes_on t u hfit
        have f1 : decide ((20000 : Int) < (t.size : Int) + (u.size : Int)) = false := decide_eq_false (by omega)
        have hadd := fun W => run_string_add_sum (P := Tryd.prog) (w := W) t u (by omega)
        have htu : (t ++ u).size ≤ maxLen := by rw [ByteArray.size_append]; unfold maxLen; omega
        obtain ⟨r1, r2⟩ := M.crcMore_range t
        have c1 := fun W => iCrcMore_any crc u W hc1 hc2 HUM.out
        have c2 := fun W => sCrcMore_any crc u W hc1 hc2 HUM.out
        have c3 := fun W => iCrc_any t W HTM.out
        have c4 := fun W => iCrcMore_any (M.crcMore 0 t) u W (by omega) (by omega) HUM.out
        have c5 := fun W => iCrc_any (t ++ u) W htu
        rw [hgo] at c4
        generalize M.crcMore 0 t = C at c3 c4
        generalize M.crcMore 0 (t ++ u) = D at c4 c5
        generalize M.crcMore crc u = E at c1 c2
        have C1 : Hid _ := c1
        have C2 : Hid _ := c2
        have C3 : Hid _ := c3
        have C4 : Hid _ := c4
        have C5 : Hid _ := c5
        clear c1 c2 c3 c4 c5 hgo r1 r2 htu
        go_wp2_with fail
        refine (C1.out _).mono ?_
        rintro e wB ⟨rfl, rfl⟩
        go_wp2_with fail
        refine (C2.out _).mono ?_
        rintro e wC ⟨rfl, rfl⟩
        go_wp2_with fail
        refine (C3.out _).mono ?_
        rintro e wD ⟨rfl, rfl⟩
        go_wp2_with fail
        refine (C4.out _).mono ?_
        rintro e wE ⟨rfl, rfl⟩
        go_wp2_with fail
        refine (C5.out _).mono ?_
        rintro e wF ⟨rfl, rfl⟩
        go_wp2
        go_ret
        exact ⟨rfl, HBA.out⟩

set_option maxHeartbeats 400000 in
theorem fnSeal_walk (a0 : Option Addr) (len0 cap0 : Nat) (a1 : Option Addr) (len1 cap1 : Nat) (w : World) (hR0 : M.IsRow w a0 len0 cap0) (hR1 : M.IsRow w a1 len1 cap1) (hg : M.errT w) :
    Calls Tryd.prog 4 #[.slice a0 len0 cap0, .slice a1 len1 cap1] w fun e w' => e = .returned (.bool true) ∧ Below w.heap.size w w' := by
  have hl0 := hR0.len_le
  have hl1 := hR1.len_le
  by_cases h0 : 1048576 < len0
  · have d0 : decide ((1048576 : Int) < (len0 : Int)) = true := decide_eq_true (by omega)
    clear hR0 hR1 hg
    go_enter Tryd.func4, Tryd.ntmps4
    go_wp2
    go_ret
    exact ⟨rfl, Below.refl _ _⟩
  by_cases h1 : 1048576 < len1
  · have d0 : decide ((1048576 : Int) < (len0 : Int)) = false := decide_eq_false (by omega)
    have d1 : decide ((1048576 : Int) < (len1 : Int)) = true := decide_eq_true (by omega)
    clear hR0 hR1 hg
    go_enter Tryd.func4, Tryd.ntmps4
    go_wp2
    go_ret
    exact ⟨rfl, Below.refl _ _⟩
  exact fnSeal_in w a0 a1 len0 cap0 len1 cap1 hR0 hR1 hg (by omega) (by omega)
end Go.Proofs.YtbmbcfnlpbbapaaDoor
