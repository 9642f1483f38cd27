/-
  What CatalogRight of the program does.
-/
import Derived.Test.YtpokcbcffijheabIGroups
import Derived.Test.YtpokcbcffijheabIRising
import Derived.Test.YtpokcbcffijheabIMarksR
import Derived.Test.YtpokcbcffijheabDBytesMath
import Derived.Maps.RangeWalk
namespace Go.Proofs.Ytpokcbcffijheab
open Go.RowKit Go.Maps

theorem M.hkey_inv {key : Value} {kl : Lit} (h : keyOf Try.prog 9 key = some kl) : ∃ x, key = .string x := by
  cases key <;> simp [keyOf, Try.underlying9, mapKey] at h
  exact ⟨_, rfl⟩
theorem M.hkey_of {x : ByteArray} {kl : Lit} (h : keyOf Try.prog 9 (.string x) = some kl) : M.hkey x = kl := by
  simp [keyOf, Try.underlying9, mapKey] at h
  exact h.2
/-- A right catalog. -/
def M.catP (ds : List M.DumpD) : Prop := ds.length ≤ 40 ∧ ds.all M.dumpR = true ∧ M.risF (·.id) ds ∧ ∀ h, M.ofH ds h ≠ [] → M.MarksR (M.marksOf ds h) ∧ M.risF (·.run) (M.ofH ds h)
theorem M.marksOf_ofH (ds : List M.DumpD) (h : ByteArray) : M.marksOf (M.ofH ds h) h = M.marksOf ds h := by
  unfold M.marksOf M.ofH
  rw [List.filter_filter]
  simp
theorem M.ofH_len (ds : List M.DumpD) (h : ByteArray) : (M.ofH ds h).length ≤ ds.length := List.length_filter_le _ _
theorem M.ofH_mem {ds : List M.DumpD} {h : ByteArray} (hne : M.ofH ds h ≠ []) : ∃ d ∈ ds, d.host = h := by
  obtain ⟨d, hd⟩ := List.exists_mem_of_ne_nil _ hne
  obtain ⟨h1, h2⟩ := List.mem_filter.1 hd
  exact ⟨d, h1, M.sameT.1 h2⟩

set_option maxRecDepth 100000 in
set_option maxHeartbeats 3200000 in
theorem iCatR_any (w : World) (a : Option Addr) (n c : Nat) (ds : List M.DumpD) (h : M.Dps w a n c ds) (hok : ∀ d ∈ ds, d.host.size ≤ maxLen) :
    Calls Try.prog 10 #[.slice a n c] w fun e w' => ∃ v : Bool, e = .returned (.bool v) ∧ (v = true ↔ M.catP ds) ∧ Below w.heap.size w w' := by
  have hlm : n ≤ 9223372036854775807 := h.max
  have HF := M.hl h
  have HN : Hid (n = ds.length) := h.1
  have HOK := M.hl hok
  have HCAT : Hid (∀ x, M.catP x ↔ (x.length ≤ 40 ∧ x.all M.dumpR = true ∧ M.risF (·.id) x ∧ ∀ h, M.ofH x h ≠ [] → M.MarksR (M.marksOf x h) ∧ M.risF (·.run) (M.ofH x h))) := fun x => Iff.rfl
  obtain ⟨C, hC⟩ : ∃ C : Prop, C = M.catP ds := ⟨_, rfl⟩
  have HC := M.hl hC
  rw [← hC]
  have CD := M.hl (iConDw_any w a n c ds h hok)
  clear h hok hC
  by_cases h40 : 40 < n
  · have d1 : decide (40 < (n : Int)) = true := decide_eq_true (by omega)
    have HX : Hid (¬ C) := by
      rw [HC.out]
      intro hc
      have := hc.1
      have := HN.out
      omega
    go_enter Try.func10, Try.ntmps10
    go_wp2
    go_ret
    exact ⟨false, rfl, ⟨fun h => (by cases h), fun h => absurd h HX.out⟩, Below.refl _ _⟩
  have d1 : decide (40 < (n : Int)) = false := decide_eq_false (by omega)
  cases hall : ds.all M.dumpR
  · rw [hall] at CD
    have HX : Hid (¬ C) := by
      rw [HC.out]
      intro hc
      have := hc.2.1
      rw [hall] at this
      cases this
    clear hall
    go_enter Try.func10, Try.ntmps10
    go_wp2_with fail
    refine CD.out.mono ?_
    rintro e w1 ⟨rfl, hb⟩
    have B1 := M.hl hb
    clear hb
    go_wp2
    go_ret
    exact ⟨false, rfl, ⟨fun h => (by cases h), fun h => absurd h HX.out⟩, B1.out⟩
  rw [hall] at CD
  have HALL := M.hl hall
  clear hall
  have H20 : Hid (∀ d ∈ ds, d.host.size ≤ 20) := fun d hd => M.nameR_len (M.dumpR_host (List.all_eq_true.1 HALL.out d hd))
  go_enter Try.func10, Try.ntmps10
  go_wp2_with fail
  refine CD.out.mono ?_
  rintro e w1 ⟨rfl, hb⟩
  have B1 := M.hl hb
  clear hb CD
  go_wp2_with fail
  refine (iRis_idOf_any w1 a n c ds (HF.out.below B1.out)).mono ?_
  rintro e w2 ⟨v2, rfl, hv2, hb⟩
  have B2 := M.hl (M.sl B1.out hb)
  have HV2 := M.hl hv2
  clear hb hv2 B1
  cases v2 with
  | false =>
    have HX : Hid (¬ C) := by
      rw [HC.out]
      intro hc
      exact absurd (HV2.out.2 hc.2.2.1) (by simp)
    go_wp2
    go_ret
    exact ⟨false, rfl, ⟨fun h => (by cases h), fun h => absurd h HX.out⟩, B2.out⟩
  | true =>
    have HRI : Hid (M.risF (·.id) ds) := HV2.out.1 rfl
    clear HV2
    go_wp2_with fail
    refine (iByHost_any w2 a n c ds (HF.out.below B2.out) HOK.out (by omega)).mono ?_
    rintro e w3 ⟨rfl, hG, hb⟩
    obtain ⟨D, V, hG⟩ := hG
    have G3 := M.hl hG
    have B3 := M.hl (M.sl B2.out hb)
    have B23 := M.hl hb
    clear hG hb
    obtain ⟨X, hX⟩ : ∃ X, X = w2.heap.size := ⟨_, rfl⟩
    rw [← hX] at G3
    have HX0 : Hid (w.heap.size ≤ X) := by rw [hX]; exact B2.out.size
    rw [← hX]
    have O3 := M.hl G3.out.own
    clear hX
    go_wp2_with (at_range; refine wpList_range_own _ rfl _ 55 rfl 9 25 M.hkeyS Try.underlying55 M.slElem X n D rfl O3.out ?_)
    intro w4 hrg hgr hsz
    have HRG := M.hl hrg
    have B34 : Hid (Below w3.heap.size w3 w4) := ⟨hgr.os, hgr.tape, hgr.output, hgr.size, fun i hi => hgr.block i hi (by simp)⟩
    obtain ⟨R, hR⟩ : ∃ R, R = w3.heap.size := ⟨_, rfl⟩
    rw [← hR] at HRG
    rw [← hR]
    have HRR := M.hl hR
    clear hrg hgr hsz hR O3
    go_wp2
    go_loopw [3] (fun _ wr => ∃ (left : Lit → Bool) (cnt : Nat), Hid (wr.ranges Try.prog 9 M.slElem X R n D left cnt) ∧ Hid (∀ h, M.ofH ds h ≠ [] → left (M.hkey h) = true ∨ (M.MarksR (M.marksOf ds h) ∧ M.risF (·.run) (M.ofH ds h))) ∧ Hid (Below w3.heap.size w3 wr)) (fun _ wr => wr.rangeLeft X R)
    case atStart =>
      refine ⟨_, _, HRG, ?_, B34⟩
      intro h hne
      refine .inl (has_true_of_atKey (y := .held (V h)) fun z => ?_)
      rw [G3.out.look, if_neg hne]
    case round =>
      obtain ⟨left, cnt, HRr, HLF, HBr⟩ := hrel
      go_wp2_with (at_next; refine wpList_next_ranges _ rfl _ rfl 9 M.hkeyS M.slElem (fun p : ByteArray => .string p) (fun t : Option Addr × Nat × Nat => .slice t.1 t.2.1 t.2.2) ?ik ?iv X R n D left cnt rfl HRr.out ?done ?more)
      case ik => intro key kl hk; exact M.hkey_inv hk
      case iv => intro v y hv; obtain ⟨t, ht, _⟩ := M.slElem_inv hv; exact ⟨t, ht⟩
      case done =>
        intro h0 hl0
        have HX : Hid C := by
          show C
          rw [HC.out]
          refine ⟨by have := HN.out; omega, HALL.out, HRI.out, fun h hne => ?_⟩
          rcases HLF.out h hne with h1 | h1
          · rw [hl0] at h1; cases h1
          · exact h1
        have BF : Hid (Below w.heap.size w wr) := M.sl B3.out HBr.out
        clear h0 hl0
        go_wp2
        go_ret
        exact ⟨true, rfl, ⟨fun _ => HX.out, fun _ => rfl⟩, BF.out⟩
      case more =>
        intro x t1 t2 t3 kl yd yp w5 cnt2 hkey hlk hv hat hrg2 hlt hg2 hs2 hen
        have HLQ : Hid (wr.rangeLeft X R = cnt) := HRr.out.left_eq
        have HCN : Hid (cnt2 < cnt) := hlt
        have HR5 := M.hl hrg2
        have HKX := M.hkey_of hkey
        subst HKX
        obtain ⟨-, -, hy⟩ := M.slElem_inv hv
        obtain rfl : yd = .held (.slice t1 t2 t3) := congrArg Prod.fst hy
        have hne : M.ofH ds x ≠ [] := by
          intro h0
          have h1 := hat .nil
          rw [G3.out.look, if_pos h0] at h1
          cases h1
        have hvx : V x = .slice t1 t2 t3 := by
          have h1 := hat .nil
          rw [G3.out.look, if_neg hne] at h1
          exact DataW.held.inj h1
        have B5 : Hid (Below w3.heap.size w3 w5) := HBr.out.grown hg2 HBr.out.size (fun j hj => by cases hj; rw [HRR.out]; exact Nat.le_refl _)
        have hoR : M.OwnR w2 w5 (X + 1) (.slice t1 t2 t3) (M.ofH ds x) := by
          rw [← hvx]
          have hb := B5.out
          exact (G3.out.row x).kept (row := none) ⟨hb.os, hb.tape, hb.output, hb.size, fun i hi _ => hb.block i hi⟩ (by cases e : (V x).ownBlock with | none => exact .inl rfl | some g => exact .inr (by simp))
        obtain ⟨ta, tc, ht, hD⟩ := hoR.dps (M.sl B23.out B5.out)
        simp only [Value.slice.injEq] at ht
        obtain ⟨rfl, rfl, rfl⟩ := ht
        have HD := M.hl hD
        have HNE := M.hl hne
        obtain ⟨d0, hd0, hdx⟩ := M.ofH_mem hne
        have hx20 : x.size ≤ 20 := by rw [← hdx]; exact H20.out d0 hd0
        have hL40 : (M.ofH ds x).length ≤ 40 := by have := M.ofH_len ds x; have := HN.out; omega
        have HMK : Hid (M.marksO (M.ofH ds x) x = M.marksOf ds x) := by
          show _ = _
          unfold M.marksO
          rw [if_neg (by omega), M.marksOf_ofH]
        have BT : Hid (Below w.heap.size w w5) := M.sl B3.out B5.out
        have CMO := M.hl (iMarksO_any w5 t1 (M.ofH ds x).length t3 (M.ofH ds x) x hD (by unfold maxLen; omega))
        rw [HMK.out] at CMO
        have HLX : Hid (∀ h, M.ofH ds h ≠ [] → h ≠ x → (left (M.hkey h) && !(M.hkey h).sameKey (M.hkey x)) = true ∨ (M.MarksR (M.marksOf ds h) ∧ M.risF (·.run) (M.ofH ds h))) := fun h hh hx => by
          rcases HLF.out h hh with h1 | h1
          · rw [h1, sameKey_ne (fun e => hx (M.hkey_inj e))]; exact .inl rfl
          · exact .inr h1
        clear hkey hlk hv hat hrg2 hlt hg2 hs2 hy hoR hD hne hd0 hdx HLF HRr HBr hvx
        go_wp2_with fail
        refine CMO.out.mono ?_
        rintro e w6 ⟨v6, rfl, hO, hb⟩
        obtain ⟨a6, c6, rfl, hM6⟩ := hO.mks
        have M6 := M.hl hM6
        have B6 := M.hl (M.sl B5.out hb)
        have BT6 := M.hl (M.sl BT.out hb)
        have B56 := M.hl hb
        have D6 := M.hl (HD.out.below hb)
        clear hO hb hM6 CMO hen
        go_wp2_with fail
        refine (iMarksR_any w6 a6 _ c6 _ M6.out).mono ?_
        rintro e w7 ⟨v7, rfl, hv7, hb⟩
        have HV7 := M.hl hv7
        have B7 := M.hl (M.sl B6.out hb)
        have BT7 := M.hl (M.sl BT6.out hb)
        have B57 := M.hl (M.sl B56.out hb)
        have D7 := M.hl (D6.out.below hb)
        clear hv7 hb M6 B6 BT6 B56 D6
        cases v7 with
        | false =>
          have HX : Hid (¬ C) := by
            rw [HC.out]
            intro hc
            exact absurd (HV7.out.2 (hc.2.2.2 x HNE.out).1) (by simp)
          go_wp2
          go_ret
          exact ⟨false, rfl, ⟨fun h => (by cases h), fun h => absurd h HX.out⟩, BT7.out⟩
        | true =>
          have HMR := M.hl (HV7.out.1 rfl)
          clear HV7
          go_wp2_with fail
          refine (iRis_runOf_any w7 t1 _ t3 _ D7.out).mono ?_
          rintro e w8 ⟨v8, rfl, hv8, hb⟩
          have HV8 := M.hl hv8
          have B8 := M.hl (M.sl B7.out hb)
          have BT8 := M.hl (M.sl BT7.out hb)
          have B58 := M.hl (M.sl B57.out hb)
          clear hv8 hb B7 BT7 B57 D7
          cases v8 with
          | false =>
            have HX : Hid (¬ C) := by
              rw [HC.out]
              intro hc
              exact absurd (HV8.out.2 (hc.2.2.2 x HNE.out).2) (by simp)
            go_wp2
            go_ret
            exact ⟨false, rfl, ⟨fun h => (by cases h), fun h => absurd h HX.out⟩, BT8.out⟩
          | true =>
            have HRN := M.hl (HV8.out.1 rfl)
            have HR8 : Hid (w8.ranges Try.prog 9 M.slElem X R n D (fun z => left z && !z.sameKey (M.hkey x)) cnt2) := by
              have hb := B58.out
              exact HR5.out.kept (row := none) ⟨hb.os, hb.tape, hb.output, hb.size, fun i hi _ => hb.block i hi⟩ (by simp) (by simp)
            have HL8 : Hid (∀ h, M.ofH ds h ≠ [] → (left (M.hkey h) && !(M.hkey h).sameKey (M.hkey x)) = true ∨ (M.MarksR (M.marksOf ds h) ∧ M.risF (·.run) (M.ofH ds h))) := fun h hh => by
              by_cases e : h = x
              · rw [e]; exact .inr ⟨HMR.out, HRN.out⟩
              · exact HLX.out h hh e
            clear HV8
            go_wp2
            go_roundw
            case rel => exact ⟨_, cnt2, HR8, HL8, B8⟩
            case measure => rw [HR8.out.left_eq, HLQ.out]; exact HCN.out
end Go.Proofs.Ytpokcbcffijheab
