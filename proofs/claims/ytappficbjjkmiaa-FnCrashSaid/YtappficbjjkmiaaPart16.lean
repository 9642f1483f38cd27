/-
  A row of bytes that a call owns, and the text that is made of it.
-/
import Derived.Test.YtappficbjjkmiaaPart12
import Derived.Test.YtappficbjjkmiaaIPartBl
import Derived.Test.YtappficbjjkmiaaITapesR
import Derived.Laws.BytesArg
import Derived.Lib.AppendStr
namespace Go.Proofs.Ytappficbjjkmiaa
open Go.RowKit

/-- A slice that the call owns holds these bytes. -/
def M.OwnB (w : World) (base : Nat) (v : Value) (L : List UInt8) : Prop := w.ownsRow base 5 1 v L.length (L.map M.u8)
theorem M.OwnB.conv {w W : World} {base : Nat} {v : Value} {L : List UInt8} (h : M.OwnB w base v L) (hb : Below w.heap.size w W) : (convert 22 9 v).run Try.prog W = .ok (.string ⟨L.toArray⟩) W := by
  obtain ⟨hl, ⟨rfl, h0⟩ | ⟨g, cap, cur, rfl, hg, hh, hn, hc, hz, ht⟩⟩ := h
  · have hL : L = [] := List.eq_nil_of_length_eq_zero h0
    rw [run_convert_bytes_nil W 22 5 Try.underlying22 Try.underlying5 0 0 9 Try.underlying9, hL]
    rfl
  · refine run_convert_bytes_back W 22 9 5 ⟨g, 0, none⟩ cap L Try.underlying22 Try.underlying5 Try.underlying9 (fun i hi => ?_)
    have hgl : g < w.heap.size := (Array.getElem?_eq_some_iff.1 hh).1
    rw [Addr.add_lit, Nat.zero_add, hb.cell (p := ⟨g, i, none⟩) hgl]
    have hi' : (L.map M.u8)[i]? = some (M.u8 L[i]) := by simp [hi]
    rw [← ht, Nat.mul_one, List.getElem?_take_of_lt hi] at hi'
    simp only [World.cell?, hh]
    simpa [M.u8] using hi'
theorem M.OwnB.below {w W : World} {base : Nat} {v : Value} {L : List UInt8} (h : M.OwnB w base v L) (hb : Below w.heap.size w W) : M.OwnB W base v L := by
  obtain ⟨hl, h0 | ⟨g, cap, cur, hv, hg, hh, hn, hc, hz, ht⟩⟩ := h
  · exact ⟨hl, .inl h0⟩
  · exact ⟨hl, .inr ⟨g, cap, cur, hv, hg, by rw [hb.block g (Array.getElem?_eq_some_iff.1 hh).1]; exact hh, hn, hc, hz, ht⟩⟩
theorem M.strCells_u8 (s : ByteArray) : Lib.strCells s = s.data.toList.map M.u8 := rfl
theorem M.OwnB.more {w : World} {base : Nat} {v : Value} {L : List UInt8} {s : ByteArray} (h : w.ownsRow base 5 1 v (L.length + s.size) (L.map M.u8 ++ Lib.strCells s)) : M.OwnB w base v (L ++ s.data.toList) := by
  unfold M.OwnB
  rw [List.length_append, ← Lib.size_eq, List.map_append, ← M.strCells_u8]
  exact h
theorem M.OwnB.len {w : World} {base : Nat} {v : Value} {L : List UInt8} (h : M.OwnB w base v L) : ∃ a cap, v = .slice a L.length cap := by
  obtain ⟨hl, ⟨rfl, h0⟩ | ⟨g, cap, cur, rfl, _⟩⟩ := h
  · exact ⟨none, 0, by rw [h0]⟩
  · exact ⟨_, _, rfl⟩
end Go.Proofs.Ytappficbjjkmiaa

/-
  What TapesRead of the program does.
-/
namespace Go.Proofs.Ytappficbjjkmiaa
open Go.RowKit

theorem Try.infoB8 : (Try.prog.info? 5).map (fun i => (i.zero, i.size, i.bytes)) = some (some (.int .u8 0), 1, 1) := by kernel_rfl
def M.treadV (ts : List M.TapeD) (ps : List M.PartD) (many : Int) : Value := .agg #[.slice none 0 0, .slice none 0 0, .string (M.tread ts ps many).1, .int .i64 (M.tread ts ps many).2]
theorem M.partB_size {ts : List M.TapeD} {p : M.PartD} {bs : List ByteArray} (h : M.partB ts p = some bs) (hr : M.tapesR ts = true) : bs.length ≤ 300 ∧ ∀ s ∈ bs, s.size = 64 := by
  unfold M.partB at h
  cases h1 : ts[p.q.toNat]? with
  | none => rw [h1] at h; cases h
  | some t =>
    rw [h1] at h
    simp only at h
    split at h
    · have hb := M.tapesR_blk hr (List.mem_of_getElem? h1)
      obtain rfl := Option.some.inj h
      exact ⟨by rw [List.length_take, List.length_drop]; omega, fun s hs => hb.2 s (List.mem_of_mem_drop (List.mem_of_mem_take hs))⟩
    · cases h
theorem M.convPre {w : World} {base n cap m : Nat} {a : Option Addr} {L : List UInt8} (h : M.OwnB w base (.slice a n cap) L) (hm : m ≤ n) : (convert 22 9 (.slice a m cap)).run Try.prog w = .ok (.string ⟨(L.take m).toArray⟩) w := by
  obtain ⟨hl, ⟨e, h0⟩ | ⟨g, cp, cur, e, hg, hh, hn, hc, hz, ht⟩⟩ := h
  · cases e
    obtain rfl : m = 0 := by omega
    rw [run_convert_bytes_nil w 22 5 Try.underlying22 Try.underlying5 0 0 9 Try.underlying9]
    rfl
  · cases e
    have hml : (L.take m).length = m := by rw [List.length_take]; omega
    have := run_convert_bytes_back w 22 9 5 ⟨g, 0, none⟩ cap (L.take m) Try.underlying22 Try.underlying5 Try.underlying9 (fun i hi => by
      rw [hml] at hi
      rw [Addr.add_lit, Nat.zero_add]
      have hi' : (L.map M.u8)[i]? = some (M.u8 (L[i]'(by omega))) := by simp [show i < L.length by omega]
      rw [← ht, Nat.mul_one, List.getElem?_take_of_lt (by omega)] at hi'
      simp only [World.cell?, hh]
      simpa [M.u8] using hi')
    rwa [hml] at this

set_option maxRecDepth 100000 in
set_option maxHeartbeats 3200000 in
theorem iTRead_any (w : World) (a : Option Addr) (n c : Nat) (ts : List M.TapeD) (a' : Option Addr) (m c' : Nat) (ps : List M.PartD) (many : Int) (h : M.Tps w a n c ts) (hok : ∀ t ∈ ts, M.tok t) (h' : M.Pts w a' m c' ps) (hpk : ∀ p ∈ ps, M.pok p) (hmy : many ≤ 9223372036854775807) :
    Calls Try.prog 13 #[.slice a n c, .slice a' m c', .int .i64 many] w fun e w' => e = .returned (M.treadV ts ps many) ∧ Below w.heap.size w w' := by
  obtain ⟨i0, hi, hz0, hz1, hz2⟩ := info_parts Try.infoB8
  have hnl := h.max
  have hml := h'.max
  have HF := M.hl h
  have HG := M.hl h'
  have HN : Hid (n = ts.length) := h.1
  have HMM : Hid (m = ps.length) := h'.1
  have HPK := M.hl hpk
  have BO : Hid (∀ o, Below w.heap.size w (w.alloc o)) := fun o => (Below.refl _ _).alloc (Nat.le_refl _) _
  have CR : Hid (∀ o, Calls Try.prog 14 #[.slice a n c] (w.alloc o) fun e w' => e = .returned (.bool (M.tapesR ts)) ∧ Below (w.alloc o).heap.size (w.alloc o) w') := fun o => iTapesR_any _ a n c ts (h.below (BO.out o)) hok
  clear h h' hok hpk
  unfold M.treadV
  by_cases h4 : 400 < n
  case pos =>
    have HE : Hid (M.tread ts ps many = (⟨#[]⟩, 2)) := by show _ = _; unfold M.tread; rw [if_pos (.inl (by have := HN.out; omega))]
    have d1 : decide (400 < (n : Int)) = true := decide_eq_true (by omega)
    rw [HE.out]
    go_enter Try.func13, Try.ntmps13
    go_wp2
    refine bodyPost_ret (v := .agg #[.slice none 0 0, .slice none 0 0, .string ⟨#[]⟩, .int .i64 2]) (by simp [results, Try.results13, go_sem]) rfl ⟨rfl, ?_⟩
    exact BO.out _
  have d1 : decide (400 < (n : Int)) = false := decide_eq_false (by omega)
  by_cases h5 : 400 < m
  case pos =>
    have HE : Hid (M.tread ts ps many = (⟨#[]⟩, 2)) := by show _ = _; unfold M.tread; rw [if_pos (.inr (by have := HMM.out; omega))]
    have d2 : decide (400 < (m : Int)) = true := decide_eq_true (by omega)
    rw [HE.out]
    go_enter Try.func13, Try.ntmps13
    go_wp2
    refine bodyPost_ret (v := .agg #[.slice none 0 0, .slice none 0 0, .string ⟨#[]⟩, .int .i64 2]) (by simp [results, Try.results13, go_sem]) rfl ⟨rfl, ?_⟩
    exact BO.out _
  have d2 : decide (400 < (m : Int)) = false := decide_eq_false (by omega)
  have HNO : Hid (¬ (400 < ts.length ∨ 400 < ps.length)) := by show ¬ _; have := HN.out; have := HMM.out; omega
  cases hr : M.tapesR ts
  case false =>
    have HE : Hid (M.tread ts ps many = (⟨#[]⟩, 1)) := by show _ = _; unfold M.tread; rw [if_neg HNO.out, hr, if_pos (.inl rfl)]
    rw [hr] at CR
    rw [HE.out]
    go_enter Try.func13, Try.ntmps13
    go_wp2_with fail
    refine (CR.out _).mono ?_
    rintro e w1 ⟨rfl, hb⟩
    have V1 := M.hl ((hb.block w.heap.size (by simp)).trans (heap_alloc_new _ _))
    have B1 := M.hl ((BO.out _).trans (hb.mono (BO.out _).size))
    have f1 := M.bk_free V1.out
    have r0 := M.bk_cell V1.out 0 (.slice none 0 0) rfl
    have r1 := M.bk_cell V1.out 1 (.slice none 0 0) rfl
    have r2 := M.bk_cell V1.out 2 (.string ⟨#[]⟩) rfl
    have r3 := M.bk_cell V1.out 3 (.int .i64 0) rfl
    clear hb
    go_wp2
    refine bodyPost_ret (v := .agg #[.slice none 0 0, .slice none 0 0, .string ⟨#[]⟩, .int .i64 1]) (by simp [results, Try.results13, go_sem, r0, r1, r2, r3]) rfl ⟨rfl, ?_⟩
    exact (((B1.out.setCell (Nat.le_refl _) _).setCell (Nat.le_refl _) _).setCell (Nat.le_refl _) _).setCell (Nat.le_refl _) _
  by_cases hmn : many < 0
  case pos =>
    have HE : Hid (M.tread ts ps many = (⟨#[]⟩, 1)) := by show _ = _; unfold M.tread; rw [if_neg HNO.out, if_pos (.inr hmn)]
    have d3 : decide (many < 0) = true := decide_eq_true hmn
    rw [hr] at CR
    rw [HE.out]
    go_enter Try.func13, Try.ntmps13
    go_wp2_with fail
    refine (CR.out _).mono ?_
    rintro e w1 ⟨rfl, hb⟩
    have V1 := M.hl ((hb.block w.heap.size (by simp)).trans (heap_alloc_new _ _))
    have B1 := M.hl ((BO.out _).trans (hb.mono (BO.out _).size))
    have f1 := M.bk_free V1.out
    have r0 := M.bk_cell V1.out 0 (.slice none 0 0) rfl
    have r1 := M.bk_cell V1.out 1 (.slice none 0 0) rfl
    have r2 := M.bk_cell V1.out 2 (.string ⟨#[]⟩) rfl
    have r3 := M.bk_cell V1.out 3 (.int .i64 0) rfl
    clear hb
    go_wp2
    refine bodyPost_ret (v := .agg #[.slice none 0 0, .slice none 0 0, .string ⟨#[]⟩, .int .i64 1]) (by simp [results, Try.results13, go_sem, r0, r1, r2, r3]) rfl ⟨rfl, ?_⟩
    exact (((B1.out.setCell (Nat.le_refl _) _).setCell (Nat.le_refl _) _).setCell (Nat.le_refl _) _).setCell (Nat.le_refl _) _
  have d3 : decide (many < 0) = false := decide_eq_false hmn
  obtain ⟨Y, rfl⟩ := Int.eq_ofNat_of_zero_le (show 0 ≤ many by omega)
  have HE : Hid (M.tread ts ps (Y : Int) = match M.readB ts ps with | none => (⟨#[]⟩, 6) | some L => if (L.length : Int) < (Y : Int) then (⟨#[]⟩, 4) else (⟨(L.take Y).toArray⟩, 0)) := by
    show _ = _; unfold M.tread; rw [if_neg HNO.out, if_neg (by rw [hr]; simp)]; rfl
  obtain ⟨tt, cc, hT⟩ : ∃ tt cc, M.tread ts ps (Y : Int) = (tt, cc) := ⟨_, _, rfl⟩
  rw [hT] at HE
  rw [hT]
  have HR := M.hl hr
  have HBL : Hid (∀ t ∈ ts, t.ss.length ≤ 300) := fun t ht => (M.tapesR_blk hr ht).1
  rw [hr] at CR
  clear hr hmn
  go_enter Try.func13, Try.ntmps13
  go_wp2_with fail
  refine (CR.out _).mono ?_
  rintro e w1 ⟨rfl, hb⟩
  have V1 := M.hl ((hb.block w.heap.size (by simp)).trans (heap_alloc_new _ _))
  have B1 := M.hl ((BO.out _).trans (hb.mono (BO.out _).size))
  have L1 : Hid (w.heap.size + 1 ≤ w1.heap.size) := by have := hb.size; show _ ≤ _; simp at this; omega
  clear hb CR
  go_wp2
  go_loopw [7, 33] (fun v i wr => ∃ (k : Nat) (L : List UInt8) (va : Option Addr) (vc : Nat), i = .int .i64 k ∧ v = .slice va L.length vc ∧ k ≤ m ∧ L.length ≤ 19200 * k ∧ Hid (M.readB ts (ps.take k) = some L) ∧ Hid (M.OwnB wr w1.heap.size (.slice va L.length vc) L) ∧ Hid (Below w1.heap.size w1 wr)) (fun _ i _ => m - (intOf i).toNat)
  case atStart => exact ⟨0, [], none, 0, rfl, rfl, Nat.zero_le _, Nat.zero_le _, rfl, ⟨rfl, .inl ⟨rfl, rfl⟩⟩, Below.refl _ _⟩
  case round =>
    obtain ⟨k, L, va, vc, rfl, rfl, hk, hLl, HL, HO, HBr⟩ := hrel
    by_cases hlt : k < m
    · obtain ⟨hfl, _, _, hfa⟩ := HG.out.below (M.sl B1.out HBr.out)
      obtain ⟨b, off, rfl, hat⟩ := hfa (by omega)
      obtain ⟨c0, c1, c2, c3⟩ := hat k (by omega)
      have hfk := List.getElem?_eq_getElem (l := ps) (i := k) (by omega)
      generalize ps[k]'(by omega) = f at c0 c1 c2 c3 hfk
      have HFK := M.hl hfk
      have hpo := HPK.out f (List.mem_of_getElem? hfk)
      obtain ⟨q, l, s, z⟩ := f
      simp only at c0 c1 c2 c3
      have BA : Hid (∀ o, Below w1.heap.size w1 (wr.alloc o)) := fun o => HBr.out.alloc HBr.out.size _
      have CP : Hid (∀ o, Calls Try.prog 54 #[.slice a n c, .agg #[.int .i64 q, .int .i64 l, .int .i64 s, .int .i64 z]] (wr.alloc o) fun e w' => (∃ v, e = .returned v ∧ M.partV w ts ⟨q, l, s, z⟩ v) ∧ Below (wr.alloc o).heap.size (wr.alloc o) w') := fun o => iPartBl_any w _ a n c ts q l s z HF.out (M.sl B1.out (BA.out o)) hpo.2.2.1 hpo.2.2.2 HBL.out
      have OA : Hid (∀ o, M.OwnB (wr.alloc o) w1.heap.size (.slice va L.length vc) L) := fun o => HO.out.below ((Below.refl _ _).alloc (Nat.le_refl _) _)
      have BW : Hid (∀ o, Below wr.heap.size wr (wr.alloc o)) := fun o => (Below.refl _ _).alloc (Nat.le_refl _) _
      clear hfk hat hfa hfl hpo
      go_wp2_with fail
      refine (CP.out _).mono ?_
      rintro e w2 ⟨⟨v, rfl, hv⟩, hb2⟩
      have O2 := M.hl ((OA.out _).below hb2)
      have B2 := M.hl (M.sl (BA.out _) hb2)
      clear hb2 c0 c1 c2 c3
      rcases hv with ⟨hno, rfl⟩ | ⟨bs, pa, pn, pc, hyes, rfl, hst⟩
      · have HX : Hid (M.readB ts ps = none) := M.readB_none HL.out HFK.out hno
        have HE2 : Hid ((tt, cc) = ((⟨#[]⟩ : ByteArray), (6 : Int))) := by show _ = _; rw [HE.out, HX.out]
        have VE := M.hl (M.keepO V1.out B2.out)
        have BF := M.hl (M.sl B1.out B2.out)
        have f1 := M.bk_free VE.out
        have r0 := M.bk_cell VE.out 0 (.slice none 0 0) rfl
        have r1 := M.bk_cell VE.out 1 (.slice none 0 0) rfl
        have r2 := M.bk_cell VE.out 2 (.string ⟨#[]⟩) rfl
        have r3 := M.bk_cell VE.out 3 (.int .i64 0) rfl
        obtain ⟨rfl, rfl⟩ := Prod.mk.inj HE2.out
        clear hno
        go_wp2
        refine bodyPost_ret (v := .agg #[.slice none 0 0, .slice none 0 0, .string ⟨#[]⟩, .int .i64 6]) (by simp [results, Try.results13, go_sem, r0, r1, r2, r3]) rfl ⟨rfl, ?_⟩
        exact (((BF.out.setCell (Nat.le_refl _) _).setCell (Nat.le_refl _) _).setCell (Nat.le_refl _) _).setCell (Nat.le_refl _) _
      · have HX : Hid (M.readB ts (ps.take (k + 1)) = some (L ++ M.bytesOf bs)) := M.readB_some HL.out HFK.out hyes
        obtain ⟨hbl, hb64⟩ := M.partB_size hyes HR.out
        have HST := M.hl hst
        have HPN : Hid (pn = bs.length) := hst.1
        have HB64 := M.hl hb64
        have hpn : pn ≤ 300 := by have := HPN.out; omega
        clear hyes hst hbl hb64
        go_wp2
        go_loopw [7, 48] (fun v i wr => ∃ (j : Nat) (K : List UInt8) (va : Option Addr) (vc : Nat), i = .int .i64 j ∧ v = .slice va K.length vc ∧ j ≤ pn ∧ K.length ≤ L.length + 64 * j ∧ Hid (K = L ++ M.bytesOf (bs.take j)) ∧ Hid (M.OwnB wr w1.heap.size (.slice va K.length vc) K) ∧ Hid (Below w1.heap.size w1 wr)) (fun _ i _ => pn - (intOf i).toNat)
        case atStart => exact ⟨0, L, va, vc, rfl, rfl, Nat.zero_le _, by omega, (show _ = _ by simp [M.bytesOf]), O2, B2⟩
        case round =>
          obtain ⟨j, K, va2, vc2, rfl, rfl, hj, hKl, HK, HOr, HBr2⟩ := hrel
          by_cases hjl : j < pn
          · obtain ⟨hfl, _, _, hfa⟩ := HST.out.below (M.sl B1.out HBr2.out)
            obtain ⟨b2, off2, rfl, hat⟩ := hfa (by omega)
            have e0 := hat j (by omega)
            have hfj := List.getElem?_eq_getElem (l := bs) (i := j) (by omega)
            generalize bs[j]'(by omega) = x at e0 hfj
            have HFJ := M.hl hfj
            have hx64 : x.size ≤ 64 := Nat.le_of_eq (HB64.out x (List.mem_of_getElem? hfj))
            have HO3 := HOr.out
            have hsz := HBr2.out.size
            have HBX := HBr2.out
            clear hfj hat hfa hfl
            go_wp2_with (at_builtin; refine Lib.wpList_append_own_string _ rfl (.tmp 52) (.tmp 53) 22 9 rfl w1.heap.size 5 i0 Try.underlying22 Try.underlying9 hi hz0 hz1 hz2 _ _ _ rfl HO3 x rfl ?c1 ?c2 ?c3 ?_)
            case c1 => unfold maxLen; omega
            case c2 => omega
            case c3 => omega
            intro v' w3 hown' hgrow _
            have HO4 : Hid (M.OwnB w3 w1.heap.size v' (K ++ x.data.toList)) := M.OwnB.more hown'
            have HB4 : Hid (Below w1.heap.size w1 w3) := HBX.grown hgrow hsz (fun k hk => (World.ownsRow.lt HO3 k hk).1)
            have HK2 : Hid (K ++ x.data.toList = L ++ M.bytesOf (bs.take (j + 1))) := by show _ = _; rw [List.take_add_one, HFJ.out, HK.out]; simp [M.bytesOf]
            have hk2 : (K ++ x.data.toList).length ≤ L.length + 64 * (j + 1) := by rw [List.length_append, ← Lib.size_eq]; omega
            obtain ⟨va3, vc3, hv3⟩ := HO4.out.len
            subst hv3
            clear hgrow hown' HO3 HBX hsz e0
            go_wp2
            go_roundw
            case rel => exact ⟨j + 1, K ++ x.data.toList, va3, vc3, by go_num, rfl, by omega, hk2, HK2, HO4, HB4⟩
            case measure => simp [intOf]; omega
          · have HK2 : Hid (M.readB ts (ps.take (k + 1)) = some K) := by
              show _ = _
              have := HK.out
              rw [List.take_of_length_le (by have := HPN.out; omega)] at this
              rw [HX.out, this]
            go_wp2
            go_roundw
            case rel => exact ⟨k + 1, K, va2, vc2, by go_num, rfl, by omega, by omega, HK2, HOr, HBr2⟩
            case measure => simp [intOf]; omega
    · have HX : Hid (M.readB ts ps = some L) := by
        have := HL.out
        rwa [List.take_of_length_le (by have := HMM.out; omega)] at this
      have VE := M.hl (M.keepO V1.out HBr.out)
      have BF := M.hl (M.sl B1.out HBr.out)
      have f1 := M.bk_free VE.out
      have r0 := M.bk_cell VE.out 0 (.slice none 0 0) rfl
      have r1 := M.bk_cell VE.out 1 (.slice none 0 0) rfl
      have r2 := M.bk_cell VE.out 2 (.string ⟨#[]⟩) rfl
      have r3 := M.bk_cell VE.out 3 (.int .i64 0) rfl
      by_cases hsh : (L.length : Int) < (Y : Int)
      · have HE2 : Hid ((tt, cc) = ((⟨#[]⟩ : ByteArray), (4 : Int))) := by show _ = _; rw [HE.out, HX.out]; simp only; rw [if_pos hsh]
        have d4 : decide ((L.length : Int) < (Y : Int)) = true := decide_eq_true hsh
        obtain ⟨rfl, rfl⟩ := Prod.mk.inj HE2.out
        go_wp2
        refine bodyPost_ret (v := .agg #[.slice none 0 0, .slice none 0 0, .string ⟨#[]⟩, .int .i64 4]) (by simp [results, Try.results13, go_sem, r0, r1, r2, r3]) rfl ⟨rfl, ?_⟩
        exact (((BF.out.setCell (Nat.le_refl _) _).setCell (Nat.le_refl _) _).setCell (Nat.le_refl _) _).setCell (Nat.le_refl _) _
      · have HE2 : Hid ((tt, cc) = ((⟨(L.take Y).toArray⟩ : ByteArray), (0 : Int))) := by show _ = _; rw [HE.out, HX.out]; simp only; rw [if_neg hsh]
        have d4 : decide ((L.length : Int) < (Y : Int)) = false := decide_eq_false hsh
        have hcv := M.convPre HO.out (show Y ≤ L.length by omega)
        have hvc : L.length ≤ vc ∧ vc ≤ 9223372036854775807 := by
          obtain ⟨-, ⟨e, h0⟩ | ⟨g, cp, cur, e, -, -, hn, hc, -⟩⟩ := HO.out
          · simp only [Value.slice.injEq] at e; omega
          · simp only [Value.slice.injEq] at e; unfold maxLen at hc; omega
        have hYc : Y ≤ vc := by omega
        obtain ⟨hv1, hv2⟩ := hvc
        obtain ⟨rfl, rfl⟩ := Prod.mk.inj HE2.out
        obtain ⟨tx, htx⟩ : ∃ tx : ByteArray, tx = ⟨(L.take Y).toArray⟩ := ⟨_, rfl⟩
        rw [← htx] at hcv
        have HTX := M.hl htx
        clear HE HE2 htx
        go_wp2
        refine bodyPost_ret (v := .agg #[.slice none 0 0, .slice none 0 0, .string tx, .int .i64 0]) (by simp [results, Try.results13, go_sem, r0, r1, r2, r3]) rfl ⟨by rw [HTX.out], ?_⟩
        exact (((BF.out.setCell (Nat.le_refl _) _).setCell (Nat.le_refl _) _).setCell (Nat.le_refl _) _).setCell (Nat.le_refl _) _
end Go.Proofs.Ytappficbjjkmiaa
