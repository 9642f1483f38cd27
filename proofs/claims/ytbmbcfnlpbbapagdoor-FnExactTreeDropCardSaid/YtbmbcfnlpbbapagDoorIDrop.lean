/-
  What TreeDrop of the program does.
-/
import Derived.Test.YtbmbcfnlpbbapagDoorCopyS
import Derived.Test.YtbmbcfnlpbbapagDoorBelowWalk
import Derived.Test.YtbmbcfnlpbbapagDoorDropMath
import Derived.WalkKit
import Derived.WalkSpells
import Derived.WalkLawsBesides
import Derived.Maps.RangeWalk
import Derived.Maps.OwnSet
namespace Go.Proofs.YtbmbcfnlpbbapagDoor
open Go.RowKit Go.Maps

set_option maxRecDepth 100000 in
set_option maxHeartbeats 3200000 in
theorem iDrop_any (w : World) (a : Option Addr) (len cap : Nat) (fs : List M.FileD) (p : ByteArray) (h : M.Files w a len cap fs) (hok : ∀ f ∈ fs, M.fok f) (hs : ∀ f ∈ fs, f.path.size ≤ 100000000 ∧ f.data.size ≤ 100000000) (hp : p.size ≤ 9223372036854775807) (hm : M.ml w) :
    Calls Tryd.prog 18 #[.slice a len cap, .string p] w fun e w' => ∃ v gs, e = .returned v ∧ M.Own w' w.heap.size 31 v gs ∧ M.DropR fs p gs ∧ Below w.heap.size w w' := by
  have hlm : len ≤ 9223372036854775807 := by obtain ⟨_, h1, h2, _⟩ := h; unfold maxLen at h2; omega
  have HFL : Hid (len = fs.length) := h.1
  have HF : Hid (M.Files w a len cap fs) := h
  have HOK : Hid (∀ f ∈ fs, M.fok f) := hok
  have HSZ : Hid (∀ f ∈ fs, f.path.size ≤ 100000000 ∧ f.data.size ≤ 100000000) := hs
  have HM : Hid (M.ml w) := hm
  clear h hok hm hs
  by_cases hbig : 400 < len ∨ 20000 < p.size
  · have HZ : Hid (M.DropR fs p []) := ⟨fun _ => rfl, fun hn => absurd (by rw [← HFL.out]; exact hbig) hn⟩
    have HO : Hid (M.Own w w.heap.size 31 (.slice none 0 0) []) := World.ownsRow_nil _ _ _ _
    by_cases hb1 : 400 < len
    · have d1 : decide (400 < (len : Int)) = true := decide_eq_true (by omega)
      clear hbig
      go_enter Tryd.func18, Tryd.ntmps18
      go_wp2
      go_ret
      exact ⟨_, [], rfl, HO.out, HZ.out, Below.refl _ _⟩
    · have d1 : decide (400 < (len : Int)) = false := decide_eq_false (by omega)
      have d2 : decide (20000 < (p.size : Int)) = true := decide_eq_true (by omega)
      clear hbig
      go_enter Tryd.func18, Tryd.ntmps18
      go_wp2
      go_ret
      exact ⟨_, [], rfl, HO.out, HZ.out, Below.refl _ _⟩
  have d1 : decide (400 < (len : Int)) = false := decide_eq_false (by omega)
  have d2 : decide (20000 < (p.size : Int)) = false := decide_eq_false (by omega)
  have HNB : Hid (¬ (400 < fs.length ∨ 20000 < p.size)) := by rw [← HFL.out]; exact hbig
  go_enter Tryd.func18, Tryd.ntmps18
  go_wp2_with fail
  refine (iTree_any w a len cap fs HF.out HOK.out HM.out).mono ?_
  rintro e w1 ⟨v, rfl, hv, hb⟩
  have HV : Hid (v = true ↔ M.TreeR fs) := hv
  have B1 : Hid (Below w.heap.size w w1) := hb
  clear hv hb
  cases v
  · have HN : Hid (¬ M.TreeR fs) := fun h => by have := HV.out.2 h; cases this
    go_wp2_with fail
    refine (iCopyS_any w1 a len cap fs (HF.out.below B1.out) HSZ.out (by omega)).mono ?_
    rintro e w2 ⟨v, rfl, hown, hb⟩
    have HFIN : Hid (M.Own w2 w.heap.size 31 v fs ∧ M.DropR fs p fs ∧ Below w.heap.size w w2) :=
      ⟨hown.base B1.out.size, ⟨fun h => absurd h HNB.out, fun _ => ⟨fun _ => rfl, fun h => absurd h HN.out⟩⟩, B1.out.trans (hb.mono B1.out.size)⟩
    clear hown hb
    go_wp2
    go_ret
    exact ⟨_, fs, rfl, HFIN.out⟩
  have HT : Hid (M.TreeR fs) := HV.out.1 rfl
  clear HV
  go_wp2_with fail
  refine (iByPath_any w1 a len cap fs (HF.out.below B1.out) HOK.out (by omega)).mono ?_
  rintro e w2 ⟨rfl, hown, hb⟩
  have B2 : Hid (Below w.heap.size w w2) := B1.out.trans (hb.mono B1.out.size)
  have HOW : Hid (w2.ownsMap Tryd.prog 9 M.fileElem w1.heap.size len (M.dat fs)) := hown
  have HBS : Hid (w.heap.size ≤ w1.heap.size) := B1.out.size
  clear hb hown
  generalize w1.heap.size = B at HOW HBS
  clear B1
  go_wp2_with fail
  refine (iBelowOf_any p w2 (by omega)).mono ?_
  rintro e w3 ⟨rfl, hcl, hb⟩
  have B3 : Hid (Below w.heap.size w w3) := B2.out.trans (hb.mono B2.out.size)
  have hg3 : w2.grownBy w3 none := ⟨hb.os, hb.tape, hb.output, hb.size, fun k hk _ => hb.block k hk⟩
  have HO3 : Hid (w3.ownsMap Tryd.prog 9 M.fileElem B len (M.dat fs)) := HOW.out.kept hg3 (by simp)
  have HCL : Hid (w3.cell? ⟨w2.heap.size, 0, none⟩ = some (.string (p ++ ⟨#[47]⟩))) := hcl
  have HNE : Hid (B < w2.heap.size ∧ w.heap.size ≤ w2.heap.size) := ⟨HOW.out.lt, B2.out.size⟩
  clear hb hg3 HOW B2 hcl
  generalize w2.heap.size = C at HCL HNE
  go_wp2_with (at_range; refine wpList_range_own _ rfl _ 47 rfl 9 31 M.keyS Tryd.underlying47 M.fileElem B len (M.dat fs) rfl HO3.out ?_)
  intro w4 hrg hgr hsz
  have HRG : Hid (w4.ranges Tryd.prog 9 M.fileElem B w3.heap.size len (M.dat fs) (Maps.has (M.dat fs)) (Maps.size (M.dat fs))) := hrg
  have B4 : Hid (Below w.heap.size w w4) := B3.out.grown hgr B3.out.size (fun j hj => by simp at hj)
  have HC4 : Hid (w4.cell? ⟨C, 0, none⟩ = some (.string (p ++ ⟨#[47]⟩))) := by
    show _ = _
    have hC := World.block_lt_of_cell? w3 _ HCL.out
    rw [World.cell?_of_block (w := w3) (hgr.block C hC (by simp))]; exact HCL.out
  have HC3 : Hid (C < w3.heap.size ∧ w.heap.size ≤ w3.heap.size) := ⟨World.block_lt_of_cell? w3 _ HCL.out, B3.out.size⟩
  clear hrg hgr hsz HO3 HCL B3
  generalize w3.heap.size = R at HRG HC3
  go_wp2
  go_loopw [7] (fun _ wr => ∃ (left : Lit → Bool) (cnt : Nat) (D : DataW M.FileD), Hid (wr.ranges Tryd.prog 9 M.fileElem B R len D left cnt) ∧ Hid (M.Drop fs p D left) ∧ Hid (wr.cell? ⟨C, 0, none⟩ = some (.string (p ++ ⟨#[47]⟩))) ∧ Hid (Below w.heap.size w wr)) (fun _ wr => wr.rangeLeft B R)
  case atStart => exact ⟨_, _, _, HRG, M.Drop.start p HT.out.rise, HC4, B4⟩
  case round =>
    obtain ⟨left, cnt, D, HRr, HDr, HCr, HBr⟩ := hrel
    go_wp2_with (at_next; refine wpList_next_ranges _ rfl _ rfl 9 M.keyS M.fileElem (fun p : ByteArray => .string p) (fun f : M.FileD => .agg #[.string f.path, .bool f.dir, .int .i64 f.mode, .int .i64 f.time, .string f.data]) ?ik ?iv B R len D left cnt rfl HRr.out ?done ?more)
    case ik => intro key kl hk; exact M.key_inv hk
    case iv => intro v y hv; obtain ⟨f, hf, _⟩ := M.fileElem_inv hv; exact ⟨f, hf⟩
    case done =>
      intro h0 hl0
      have HH : Hid (M.Holder D (fun f => f ∈ fs ∧ M.isBelow f.path p = false)) := HDr.out.holder hl0
      clear hl0
      go_wp2_with fail
      refine (iOrder_any wr B len D _ HRr.out.owns HH.out (by omega) (fun f hf => by
        obtain ⟨j, hj, rfl⟩ := List.getElem_of_mem hf.1
        exact ⟨M.path_size (HT.out.file j hj), M.data_size (HT.out.file j hj)⟩)).mono ?_
      rintro e w5 ⟨v, gs, rfl, hown, hri, hmem, hb⟩
      have HFIN : Hid (M.Own w5 w.heap.size 31 v gs ∧ M.DropR fs p gs ∧ Below w.heap.size w w5) :=
        ⟨hown.base HBr.out.size, ⟨fun h => absurd h HNB.out, fun _ => ⟨fun h => absurd HT.out h, fun _ => ⟨hri, hmem⟩⟩⟩, HBr.out.trans (hb.mono HBr.out.size)⟩
      clear hown hri hmem hb
      go_wp2
      go_ret
      exact ⟨_, gs, rfl, HFIN.out⟩
    case more =>
      intro x c kl yd yp w2 cnt2 hkey hlk hv hat hrg2 hlt hg2 hs2 hen
      obtain ⟨c', hc', hy⟩ := M.fileElem_inv hv
      obtain rfl : yd = .held c' := congrArg Prod.fst hy
      obtain rfl : c = c' := by
        obtain ⟨p1, d1, m1, t1, x1⟩ := c
        obtain ⟨p2, d2, m2, t2, x2⟩ := c'
        simpa [M.fval] using hc'
      obtain rfl := HDr.out.key kl c hat
      have hxc : c.path = x := M.key_inj (M.key_of hkey)
      subst hxc
      have HKEY : Hid (keyOf Tryd.prog 9 (.string c.path) = some (M.key c.path)) := hkey
      have HLK : Hid (left (M.key c.path) = true) := hlk
      have HR2 : Hid (w2.ranges Tryd.prog 9 M.fileElem B R len D (fun z => left z && !z.sameKey (M.key c.path)) cnt2) := hrg2
      have HCN : Hid (cnt2 < cnt) := hlt
      have HLQ : Hid (wr.rangeLeft B R = cnt) := HRr.out.left_eq
      have HB2 : Hid (Below w.heap.size w w2) := HBr.out.grown hg2 HBr.out.size (fun j hj => by cases hj; exact HC3.out.2)
      have HC2 : Hid (w2.cell? ⟨C, 0, none⟩ = some (.string (p ++ ⟨#[47]⟩))) := by
        show _ = _
        have hC := World.block_lt_of_cell? wr _ HCr.out
        rw [World.cell?_of_block (w := wr) (hg2.block C hC (fun e => by cases e; have := HC3.out.1; omega))]; exact HCr.out
      clear hkey hlk hv hat hrg2 hlt hg2 hs2 hc' hy HRr HBr HCr
      cases hq : (c.path.toList == p.toList)
      · have hne : c.path ≠ p := fun e => by rw [e] at hq; simp at hq
        have hB : ∀ W, W.cell? ⟨C, 0, none⟩ = some (.string (p ++ ⟨#[47]⟩)) → Calls Tryd.prog 45 #[.string c.path, .pointer (some ⟨C, 0, none⟩)] W fun e w' => e = .returned (.bool (M.isBelow c.path p)) ∧ Below W.heap.size W w' := fun W hW => by
          have := iBelow_any c.path (p ++ ⟨#[47]⟩) C W hW
          rw [M.top_data] at this
          unfold M.isBelow
          rw [decide_eq_false hne]
          exact this
        have HBL : Hid (∀ W, W.cell? ⟨C, 0, none⟩ = some (.string (p ++ ⟨#[47]⟩)) → Calls Tryd.prog 45 #[.string c.path, .pointer (some ⟨C, 0, none⟩)] W fun e w' => e = .returned (.bool (M.isBelow c.path p)) ∧ Below W.heap.size W w') := hB
        clear hB hne
        go_wp2_with fail
        refine (HBL.out _ HC2.out).mono ?_
        rintro e w3 ⟨rfl, hb⟩
        have hg3 : w2.grownBy w3 none := ⟨hb.os, hb.tape, hb.output, hb.size, fun k hk _ => hb.block k hk⟩
        have HR3 : Hid (w3.ranges Tryd.prog 9 M.fileElem B R len D (fun z => left z && !z.sameKey (M.key c.path)) cnt2) := HR2.out.kept hg3 (by simp) (by simp)
        have HB3 : Hid (Below w.heap.size w w3) := HB2.out.trans (hb.mono HB2.out.size)
        have HC3' : Hid (w3.cell? ⟨C, 0, none⟩ = some (.string (p ++ ⟨#[47]⟩))) := by
          show _ = _
          rw [hb.cell (p := ⟨C, 0, none⟩) (World.block_lt_of_cell? w2 _ HC2.out)]; exact HC2.out
        clear hb hg3 HR2 HB2 HC2 HBL hen
        cases hbw : M.isBelow c.path p
        · have HD3 : Hid (M.Drop fs p D (fun z => left z && !z.sameKey (M.key c.path))) := HDr.out.stay HLK.out hbw
          clear hbw
          go_wp2
          go_roundw
          case rel => exact ⟨_, _, _, HR3, HD3, HC3', HB3⟩
          case measure => rw [HR3.out.left_eq, HLQ.out]; exact HCN.out
        · have HBW : Hid (M.isBelow c.path p = true) := hbw
          clear hbw
          go_wp2_with (at_delete; refine wpList_delete_ranges _ rfl _ _ 47 9 rfl 31 M.keyS Tryd.underlying47 M.fileElem B R len D _ cnt2 rfl HR3.out _ (M.key c.path) rfl HKEY.out ?_)
          intro w5 cnt5 hr5 hle hturn
          have HR5 : Hid (w5.ranges Tryd.prog 9 M.fileElem B R len (D.del (M.key c.path)) (fun z => left z && !z.sameKey (M.key c.path)) cnt5) := hr5
          have HB5 : Hid (Below w.heap.size w w5) := HB3.out.grown hturn.grown HB3.out.size (fun j hj => by cases hj; exact HBS.out)
          have HC5 : Hid (w5.cell? ⟨C, 0, none⟩ = some (.string (p ++ ⟨#[47]⟩))) := by
            show _ = _
            have hC := World.block_lt_of_cell? w3 _ HC3'.out
            rw [World.cell?_of_block (w := w3) (hturn.grown.block C hC (fun e => by cases e; have := HNE.out.1; omega))]; exact HC3'.out
          have HD5 : Hid (M.Drop fs p (D.del (M.key c.path)) (fun z => left z && !z.sameKey (M.key c.path))) := HDr.out.gone HBW.out
          have HLE : Hid (cnt5 ≤ cnt2) := hle
          clear hr5 hle hturn HR3 HB3 HC3'
          go_wp2
          go_roundw
          case rel => exact ⟨_, _, _, HR5, HD5, HC5, HB5⟩
          case measure => rw [HR5.out.left_eq, HLQ.out]; have h1 := HLE.out; have h2 := HCN.out; omega
      · have HBW : Hid (M.isBelow c.path p = true) := by
          have e : c.path = p := M.bytes_eq (by simpa using hq)
          show _ = _
          unfold M.isBelow
          rw [decide_eq_true e]; rfl
        have HR3 := HR2
        have HB3 := HB2
        have HC3' := HC2
        clear HR2 HB2 HC2
        go_wp2_with (at_delete; refine wpList_delete_ranges _ rfl _ _ 47 9 rfl 31 M.keyS Tryd.underlying47 M.fileElem B R len D _ cnt2 rfl HR3.out _ (M.key c.path) rfl HKEY.out ?_)
        intro w5 cnt5 hr5 hle hturn
        have HR5 : Hid (w5.ranges Tryd.prog 9 M.fileElem B R len (D.del (M.key c.path)) (fun z => left z && !z.sameKey (M.key c.path)) cnt5) := hr5
        have HB5 : Hid (Below w.heap.size w w5) := HB3.out.grown hturn.grown HB3.out.size (fun j hj => by cases hj; exact HBS.out)
        have HC5 : Hid (w5.cell? ⟨C, 0, none⟩ = some (.string (p ++ ⟨#[47]⟩))) := by
          show _ = _
          have hC := World.block_lt_of_cell? w2 _ HC3'.out
          rw [World.cell?_of_block (w := w2) (hturn.grown.block C hC (fun e => by cases e; have := HNE.out.1; omega))]; exact HC3'.out
        have HD5 : Hid (M.Drop fs p (D.del (M.key c.path)) (fun z => left z && !z.sameKey (M.key c.path))) := HDr.out.gone HBW.out
        have HLE : Hid (cnt5 ≤ cnt2) := hle
        clear hr5 hle hturn HR3 HB3 HC3'
        go_wp2
        go_roundw
        case rel => exact ⟨_, _, _, HR5, HD5, HC5, HB5⟩
        case measure => rw [HR5.out.left_eq, HLQ.out]; have h1 := HLE.out; have h2 := HCN.out; omega
end Go.Proofs.YtbmbcfnlpbbapagDoor
