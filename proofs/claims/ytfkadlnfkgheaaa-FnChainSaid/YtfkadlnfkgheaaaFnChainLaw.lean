/-
  What promise 10 asks of chains and of what is kept, at every draw.
-/
import Derived.Test.YtfkadlnfkgheaaaChainMath
import Derived.Test.YtfkadlnfkgheaaaLwNums
import Derived.Test.YtfkadlnfkgheaaaDrawChain
import Derived.Test.YtfkadlnfkgheaaaIChain
import Derived.Test.YtfkadlnfkgheaaaSChain
import Derived.Test.YtfkadlnfkgheaaaIKept
import Derived.Test.YtfkadlnfkgheaaaIMarksR
import Derived.Test.YtfkadlnfkgheaaaSMarksR
import Derived.Test.YtfkadlnfkgheaaaWide
namespace Go.Proofs.Ytfkadlnfkgheaaa
open Go.RowKit

theorem M.isRow_bel {w w' : World} {a : Option Addr} {len cap : Nat} (h : M.IsRow w a len cap) (hb : Below w.heap.size w w') : M.IsRow w' a len cap :=
  h.kept (row := none) ⟨hb.os, hb.tape, hb.output, hb.size, fun k hk _ => hb.block k hk⟩ (fun _ _ _ e => by cases e)
theorem M.sc {a w v : World} (h : Below a.heap.size a w) (h' : Below w.heap.size w v) : Below a.heap.size a v := h.trans (h'.mono h.size)
theorem M.chain_len (ms : List M.MkD) (id : Int) : (M.chain ms id).length ≤ 61 := by
  unfold M.chain
  rw [List.length_reverse]
  have : ∀ (f : Nat) (z : Int), (M.up ms f z).length ≤ f := fun f => by
    induction f with
    | zero => intro z; exact Nat.le_refl _
    | succ f ih =>
      intro z
      cases hf : M.found ms z with
      | none => rw [M.up_none hf]; exact Nat.zero_le _
      | some m => rw [M.up_some hf, List.length_cons]; exact Nat.succ_le_succ (ih _)
  exact this 61 id
theorem M.fld1 (x y z : Int) (W : World) : (Instr.field 31 (.agg #[.int .i64 x, .int .i64 y, .int .i64 z]) 1).run Try.prog W = .ok (.int .i64 y) W := by
  unfold Instr.field
  simp [go_sem, asAgg]
/-- What ChainOf tells. -/
def M.ChOut (ms : List M.MkD) (id : Int) (zs : List Int) : Prop := (M.MarksR ms ∧ zs = M.chain ms id) ∨ (¬ M.MarksR ms ∧ zs = [])
theorem M.ChOut.same {ms : List M.MkD} {id : Int} {zs zs' : List Int} (h : M.ChOut ms id zs) (h' : M.ChOut ms id zs') : zs = zs' := by
  rcases h with ⟨h1, rfl⟩ | ⟨h1, rfl⟩ <;> rcases h' with ⟨k1, rfl⟩ | ⟨k1, rfl⟩
  · rfl
  · exact absurd h1 k1
  · exact absurd k1 h1
  · rfl
theorem M.ChOut.len {ms : List M.MkD} {id : Int} {zs : List Int} (h : M.ChOut ms id zs) : zs.length ≤ 61 := by
  rcases h with ⟨h1, rfl⟩ | ⟨h1, rfl⟩
  · exact M.chain_len ms id
  · exact Nat.zero_le _
theorem M.ChOut.way {ms : List M.MkD} {id : Int} {zs : List Int} (h : M.ChOut ms id zs) : ∀ (i : Nat) (z : Int), zs[i]? = some z → ∃ m, M.found ms z = some m ∧ (i = 0 → m.level = 0) ∧ (i + 1 = zs.length → z = id) ∧ ∀ y, 0 < i → zs[i - 1]? = some y → m.base = y ∧ ∃ b, M.found ms y = some b ∧ b.level < m.level := by
  rcases h with ⟨h1, rfl⟩ | ⟨h1, rfl⟩
  · exact M.chain_way h1 id
  · intro i z hz; simp at hz

set_option maxRecDepth 100000 in
set_option maxHeartbeats 6400000 in
theorem fnChain_walk (a0 : Option Addr) (len0 cap0 : Nat) (a1 : Option Addr) (len1 cap1 : Nat) (w : World) (hR0 : M.IsRow w a0 len0 cap0) (hR1 : M.IsRow w a1 len1 cap1) :
    Calls Try.prog 3 #[.slice a0 len0 cap0, .slice a1 len1 cap1] w fun e w' => e = .returned (.bool true) ∧ Below w.heap.size w w' := by
  have hl0 := hR0.len_le
  have hl1 := hR1.len_le
  by_cases g0 : 1048576 < len0
  · have d0 : decide (1048576 < (len0 : Int)) = true := decide_eq_true (by omega)
    clear hR0 hR1
    go_enter Try.func3, Try.ntmps3
    go_wp2
    go_ret
    exact ⟨rfl, Below.refl _ _⟩
  have d0 : decide (1048576 < (len0 : Int)) = false := decide_eq_false (by omega)
  by_cases g1 : 1048576 < len1
  · have d1 : decide (1048576 < (len1 : Int)) = true := decide_eq_true (by omega)
    clear hR0 hR1
    go_enter Try.func3, Try.ntmps3
    go_wp2
    go_ret
    exact ⟨rfl, Below.refl _ _⟩
  have d1 : decide (1048576 < (len1 : Int)) = false := decide_eq_false (by omega)
  have HR0 := M.hdc hR0
  have HR1 := M.hdc hR1
  clear hR0 hR1 g0 g1
  go_enter Try.func3, Try.ntmps3
  go_wp2_with fail
  refine (drawChainOf_any w a0 len0 cap0 HR0.out).mono ?_
  rintro e w1 ⟨v, ms, id, rfl, hms, hid, hO, hb⟩
  obtain ⟨al, cl, rfl, hM⟩ := hO.mks
  have M1 := M.hdc hM
  have B1 := M.hdc hb
  clear hO hM hb
  go_wp2_with fail
  refine (iChainOf_any w1 al ms.length cl ms id M1.out).mono ?_
  rintro e w2 ⟨vc, zc, rfl, hN, hC, hb⟩
  have HC : Hid (M.ChOut ms id zc) := hC
  obtain ⟨ac, cc, rfl, hV⟩ := hN.nv
  have N2 := M.hdc hN
  have V2 := M.hdc hV
  have B2 := M.hdc hb
  have M2 := M.hdc (M1.out.below hb)
  have hcl := HC.out.len
  clear hN hV hC hb
  go_wp2_with fail
  refine (sChainOf_any w2 al ms.length cl ms id M2.out).mono ?_
  rintro e w3 ⟨vd, zd, rfl, hN, hC, hb⟩
  obtain rfl := HC.out.same hC
  have N3 := M.hdc (N2.out.below hb)
  have D3 := M.hdc hN
  have B23 := M.hdc hb
  clear hN hC hb
  go_wp2_with fail
  refine (lwIds_same w3 _ _ _ _ zc N3.out D3.out (by omega)).mono ?_
  rintro e w4 ⟨rfl, hb⟩
  have B24 := M.hdc (M.sc B23.out hb)
  have M4 := M.hdc (M2.out.below (M.sc B23.out hb))
  clear hb D3 B23
  go_wp2_with fail
  refine (iMarksR_any w4 al ms.length cl ms M4.out).mono ?_
  rintro e w5 ⟨u, rfl, hu, hb⟩
  have HU := M.hdc hu
  have B25 := M.hdc (M.sc B24.out hb)
  have M5 := M.hdc (M4.out.below hb)
  clear hb hu B24
  go_wp2_with fail
  refine (sMarksR_any w5 al ms.length cl ms M5.out).mono ?_
  rintro e w6 ⟨u', rfl, hu', hb⟩
  obtain rfl : u = u' := by rw [Bool.eq_iff_iff, HU.out, hu']
  have B26 := M.hdc (M.sc B25.out hb)
  have M6 := M.hdc (M5.out.below hb)
  have V6 : Hid (M.NV w6 ac zc.length zc) := by
    obtain ⟨a', c', e, h⟩ := (N2.out.below B26.out).nv
    cases e
    exact h
  have B6 := M.hdc (M.sc B1.out (M.sc B2.out B26.out))
  clear hb hu' B25 HU M4 M5
  have dd : (u != u) = false := by simp
  have dd' : (u == u) = true := by simp
  go_wp2
  go_loopw [8] (fun i wr => ∃ k : Nat, i = .int .i64 k ∧ k ≤ zc.length ∧ Hid (Below w6.heap.size w6 wr)) (fun i _ => zc.length - (intOf i).toNat)
  case atStart => exact ⟨0, rfl, Nat.zero_le _, Below.refl _ _⟩
  case round =>
    obtain ⟨k, rfl, hk, HBr⟩ := hrel
    by_cases hlt : k < zc.length
    · obtain ⟨-, hva⟩ := V6.out
      obtain ⟨b, off, rfl, hat⟩ := hva (by omega)
      have z0 := hat k hlt
      have HAT := M.hdc hat
      have hzk := List.getElem?_eq_getElem (l := zc) (i := k) hlt
      generalize zc[k]'hlt = z at z0 hzk
      obtain ⟨m, hfm, hlev, hend, hup⟩ := HC.out.way k z hzk
      have HUP := M.hdc hup
      have hbl : b < w6.heap.size := World.block_lt_of_cell? w6 _ z0
      have zr : wr.cell? ⟨b, off + k, none⟩ = some (.int .i64 z) := (HBr.out.cell (p := ⟨b, off + k, none⟩) hbl).trans z0
      have CKK : Hid (∀ W y x, Below w6.heap.size w6 W → M.found ms y = some x → Calls Try.prog 14 #[.slice al ms.length cl, .int .i64 y] W fun e w' => e = .returned (.agg #[.int .i64 x.id, .int .i64 x.level, .int .i64 x.base]) ∧ Below W.heap.size W w') := fun W y x hW hf => lwMark_any W al ms.length cl ms y x (M6.out.below hW) hf (by omega)
      have HFM := M.hdc hfm
      clear hva hat hup hfm
      go_wp2_with fail
      refine (CKK.out wr z m HBr.out HFM.out).mono ?_
      rintro e w7 ⟨rfl, hb7⟩
      have B7 := M.hdc (fun o => (M.sc HBr.out hb7).alloc (M.sc HBr.out hb7).size o)
      have HX : Hid (∀ x : M.Wd (w7.alloc (.cells #[.int .i64 m.id, .int .i64 m.level, .int .i64 m.base] 31)), Below w6.heap.size w6 x.val) := fun x => M.sc (B7.out _) x.bel
      have m1 : ∀ x : M.Wd (w7.alloc (.cells #[.int .i64 m.id, .int .i64 m.level, .int .i64 m.base] 31)), x.val.cell? ⟨w7.heap.size, 1, none⟩ = some (.int .i64 m.level) := fun x => M.Wd.cell (by simp) x
      have m2 : ∀ x : M.Wd (w7.alloc (.cells #[.int .i64 m.id, .int .i64 m.level, .int .i64 m.base] 31)), x.val.cell? ⟨w7.heap.size, 2, none⟩ = some (.int .i64 m.base) := fun x => M.Wd.cell (by simp) x
      have q0 : ∀ x : M.Wd (w7.alloc (.cells #[.int .i64 m.id, .int .i64 m.level, .int .i64 m.base] 31)), x.val.cell? ⟨b, off + k, none⟩ = some (.int .i64 z) := fun x => ((HX.out x).cell (p := ⟨b, off + k, none⟩) hbl).trans z0
      have hlast : ((k : Int) == (zc.length : Int) - 1) = true → z = id := fun h => hend (by have := beq_iff_eq.1 h; omega)
      have HL := M.hdc hlast
      obtain ⟨last, hla⟩ : ∃ last, last = ((k : Int) == (zc.length : Int) - 1) := ⟨_, rfl⟩
      have hla' := hla.symm
      rw [← hla] at HL
      clear hb7 hlast hend z0 zr hla
      by_cases h0 : k = 0
      · have hl0' := hlev h0
        have dk : ((k : Int) == 0) = true := by rw [beq_iff_eq]; omega
        have dg : decide (0 < k) = false := decide_eq_false (by omega)
        have dg' : decide (0 < (k : Int)) = false := decide_eq_false (by omega)
        have dl : ((m.level : Int) != 0) = false := by rw [bne_eq_false_iff_eq]; exact hl0'
        clear hl0' hlev hzk h0
        cases last
        · go_wp2_with fail
          refine M.wp_region_wd (by kernel_rfl) (by kernel_rfl) (fun _ => ?_)
          repeat (first | go_big_quiet_skip | (go_big_quiet_want; go_big_quiet_op; go_big_quiet_on))
          refine wpQuiet_nil ?_
          intro w9 hw'
          have HB9 : Hid (Below w6.heap.size w6 w9) := by obtain ⟨x, rfl⟩ := hw'; exact HX.out x
          clear hw' m1 m2 q0
          go_wp2
          go_roundw
          case rel => exact ⟨k + 1, by go_num, by omega, HB9⟩
          case measure => simp [intOf]; omega
        · have hzi := HL.out rfl
          subst hzi
          have dz : ((z : Int) != z) = false := by simp
          go_wp2_with fail
          refine M.wp_region_wd (by kernel_rfl) (by kernel_rfl) (fun _ => ?_)
          repeat (first | go_big_quiet_skip | (go_big_quiet_want; go_big_quiet_op; go_big_quiet_on))
          refine wpQuiet_nil ?_
          intro w9 hw'
          have HB9 : Hid (Below w6.heap.size w6 w9) := by obtain ⟨x, rfl⟩ := hw'; exact HX.out x
          clear hw' m1 m2 q0
          go_wp2
          go_roundw
          case rel => exact ⟨k + 1, by go_num, by omega, HB9⟩
          case measure => simp [intOf]; omega
      · obtain ⟨j, hj0⟩ : ∃ j, k = j + 1 := ⟨k - 1, by omega⟩
        have hjl : j < zc.length := by omega
        have hyk := List.getElem?_eq_getElem (l := zc) (i := j) hjl
        have y0 := HAT.out j hjl
        generalize zc[j]'hjl = y at y0 hyk
        obtain ⟨hby, bm, hfb, hlow⟩ := HUP.out y (by omega) (by rw [hj0, Nat.add_sub_cancel]; exact hyk)
        have HFB := M.hdc hfb
        have qj : ∀ x : M.Wd (w7.alloc (.cells #[.int .i64 m.id, .int .i64 m.level, .int .i64 m.base] 31)), x.val.cell? ⟨b, off + j, none⟩ = some (.int .i64 y) := fun x => ((HX.out x).cell (p := ⟨b, off + j, none⟩) hbl).trans y0
        have hj : (k : Int) - 1 = (j : Int) := by omega
        have hjn : (j : Int) < (zc.length : Int) := by omega
        have dk : ((k : Int) == 0) = false := by rw [beq_eq_false_iff_ne]; omega
        have dg : decide (0 < k) = true := decide_eq_true (by omega)
        have dg' : decide (0 < (k : Int)) = true := decide_eq_true (by omega)
        have db : ((m.base : Int) != y) = false := by rw [bne_eq_false_iff_eq]; exact hby
        have hfd := M.fld1 bm.id bm.level bm.base
        have dv : decide ((m.level : Int) ≤ bm.level) = false := decide_eq_false (by omega)
        have CK : Hid (∀ W, Below (w7.alloc (.cells #[.int .i64 m.id, .int .i64 m.level, .int .i64 m.base] 31)).heap.size (w7.alloc (.cells #[.int .i64 m.id, .int .i64 m.level, .int .i64 m.base] 31)) W → Calls Try.prog 14 #[.slice al ms.length cl, .int .i64 y] W fun e w' => e = .returned (.agg #[.int .i64 bm.id, .int .i64 bm.level, .int .i64 bm.base]) ∧ Below W.heap.size W w') := fun W hW => CKK.out W y bm (M.sc (B7.out _) hW) HFB.out
        clear hj0 hjl hyk y0 hby hfb hlow h0 hlev hzk
        cases last
        · go_wp2_with fail
          refine M.wp_region_wd (by kernel_rfl) (by kernel_rfl) (fun _ => ?_)
          repeat (first | go_big_quiet_skip | (go_big_quiet_want; go_big_quiet_op; first | go_big_quiet_on | (apply Exists.intro; refine ⟨fun x => ?_, ?_⟩; exact M.Wd.call x (CK.out x.val x.bel); go_big_quiet_on)))
          refine wpQuiet_nil ?_
          intro w9 hw'
          have HB9 : Hid (Below w6.heap.size w6 w9) := by obtain ⟨x, rfl⟩ := hw'; exact HX.out x
          clear hw' m1 m2 q0 qj
          go_wp2
          go_roundw
          case rel => exact ⟨k + 1, by go_num, by omega, HB9⟩
          case measure => simp [intOf]; omega
        · have hzi := HL.out rfl
          subst hzi
          have dz : ((z : Int) != z) = false := by simp
          go_wp2_with fail
          refine M.wp_region_wd (by kernel_rfl) (by kernel_rfl) (fun _ => ?_)
          repeat (first | go_big_quiet_skip | (go_big_quiet_want; go_big_quiet_op; first | go_big_quiet_on | (apply Exists.intro; refine ⟨fun x => ?_, ?_⟩; exact M.Wd.call x (CK.out x.val x.bel); go_big_quiet_on)))
          refine wpQuiet_nil ?_
          intro w9 hw'
          have HB9 : Hid (Below w6.heap.size w6 w9) := by obtain ⟨x, rfl⟩ := hw'; exact HX.out x
          clear hw' m1 m2 q0 qj
          go_wp2
          go_roundw
          case rel => exact ⟨k + 1, by go_num, by omega, HB9⟩
          case measure => simp [intOf]; omega
    · have BR := M.hdc (M.sc B6.out HBr.out)
      have HR2 := M.hdc (M.isRow_bel HR1.out BR.out)
      clear V6 M6 V2 M2 N2 M1 HC
      go_wp2_with fail
      refine (drawKept_any wr a1 len1 cap1 HR2.out).mono ?_
      rintro e x1 ⟨v, vi, ks, ids, rfl, hks, hids, hO, hI, hb⟩
      obtain ⟨ak, ck, rfl, hM⟩ := hO.mks
      obtain ⟨ai, ci, rfl, hV⟩ := hI.nv
      have K1 := M.hdc hM
      have I1 := M.hdc hV
      have X1 := M.hdc (M.sc BR.out hb)
      clear hO hI hM hV hb
      go_wp2_with fail
      refine (iKept_any x1 ak ks.length ck ks ai ids.length ci ids K1.out I1.out (by omega)).mono ?_
      rintro e x2 ⟨vx, zx, rfl, hN, hK, hb⟩
      have HK := M.hdc hK
      obtain ⟨ax, cx, rfl, hV⟩ := hN.nv
      have P2 := M.hdc hN
      have K2 := M.hdc (K1.out.below hb)
      have I2 : Hid (M.NV x2 ai ids.length ids) := ⟨I1.out.1, fun h => by obtain ⟨b, off, ha, hc⟩ := I1.out.2 h; exact ⟨b, off, ha, fun i hi => (hb.cell (p := ⟨b, off + i, none⟩) (World.block_lt_of_cell? x1 _ (hc i hi))).trans (hc i hi)⟩⟩
      have X2 := M.hdc (M.sc X1.out hb)
      have hzx : zx.length ≤ 60 := by
        rcases hK with ⟨h1, h2, rfl⟩ | ⟨h1, rfl⟩
        · have := M.keep_len ks (M.chains ks ids) ks.length; have := h1.1; omega
        · exact Nat.zero_le _
      clear hN hK hV hb
      go_wp2_with fail
      refine (sKept_any x2 ak ks.length ck ks ai ids.length ci ids K2.out I2.out (by omega)).mono ?_
      rintro e x3 ⟨vy, zy, rfl, hN, hK, hb⟩
      obtain rfl := HK.out.same hK
      have P3 := M.hdc (P2.out.below hb)
      have Y3 := M.hdc hN
      have X23 := M.hdc hb
      clear hN hK hb
      go_wp2_with fail
      refine (lwIds_same x3 _ _ _ _ zx P3.out Y3.out (by omega)).mono ?_
      rintro e x4 ⟨rfl, hb⟩
      have X24 := M.hdc (M.sc X23.out hb)
      have V4 : Hid (M.NV x4 ax zx.length zx) := by
        obtain ⟨a', c', e, h⟩ := (P2.out.below X24.out).nv
        cases e
        exact h
      clear hb Y3 X23
      go_wp2_with fail
      refine (iKept_any x4 ak ks.length ck ks ax zx.length cx zx (K2.out.below X24.out) V4.out (by omega)).mono ?_
      rintro e x5 ⟨vz, zz, rfl, hN, hK, hb⟩
      obtain rfl := HK.out.again hK
      have P5 := M.hdc (P2.out.below (M.sc X24.out hb))
      have Z5 := M.hdc hN
      have X25 := M.hdc (M.sc X24.out hb)
      clear hN hK hb
      go_wp2_with fail
      refine (lwIds_same x5 _ _ _ _ zz Z5.out P5.out (by omega)).mono ?_
      rintro e x6 ⟨rfl, hb⟩
      have X26 := M.hdc (M.sc X25.out hb)
      have K6 := M.hdc (K2.out.below X26.out)
      have V6 : Hid (M.NV x6 ax zz.length zz) := by
        obtain ⟨a', c', e, h⟩ := (P2.out.below X26.out).nv
        cases e
        exact h
      have X6 := M.hdc (M.sc X2.out X26.out)
      clear hb Z5 X25 X24 P3 V4 I2
      have HAS : Hid (∀ (i : Nat) (z y : Int) (zy : List Int), zz[i]? = some z → M.ChOut ks z zy → y ∈ zy → M.has zz y = true) := fun i z y zy hz hC hy => by
        unfold M.has
        refine decide_eq_true ?_
        rcases HK.out with ⟨h1, h2, h3⟩ | ⟨h1, h3⟩
        · rcases hC with ⟨-, rfl⟩ | ⟨k1, -⟩
          · have hzm : z ∈ zz := List.mem_of_getElem? hz
            rw [h3] at hzm ⊢
            exact M.keep_chain h1 hzm hy
          · exact absurd h1 k1
        · rw [h3] at hz; simp at hz
      clear HK K2 P2 P5 X1 X2 K1 I1
      go_wp2
      go_loopw [13] (fun i wr => ∃ k : Nat, i = .int .i64 k ∧ k ≤ zz.length ∧ Hid (Below x6.heap.size x6 wr)) (fun i _ => zz.length - (intOf i).toNat)
      case atStart => exact ⟨0, rfl, Nat.zero_le _, Below.refl _ _⟩
      case round =>
        obtain ⟨k, rfl, hk, HBq⟩ := hrel
        by_cases hlt : k < zz.length
        · obtain ⟨-, hva⟩ := V6.out
          obtain ⟨b, off, rfl, hat⟩ := hva (by omega)
          have z0 := hat k hlt
          have hzk := List.getElem?_eq_getElem (l := zz) (i := k) hlt
          generalize zz[k]'hlt = z at z0 hzk
          have HZK := M.hdc hzk
          have zr : wr.cell? ⟨b, off + k, none⟩ = some (.int .i64 z) := (HBq.out.cell (p := ⟨b, off + k, none⟩) (World.block_lt_of_cell? x6 _ z0)).trans z0
          have CC := M.hdc (iChainOf_any wr ak ks.length ck ks z (K6.out.below HBq.out))
          clear hva hat hzk z0
          go_wp2_with fail
          refine CC.out.mono ?_
          rintro e y1 ⟨vy1, zy, rfl, hN, hC, hb⟩
          have HC1 : Hid (M.ChOut ks z zy) := hC
          obtain ⟨ay, cy, rfl, hV⟩ := hN.nv
          have VY := M.hdc hV
          have BY := M.hdc (M.sc HBq.out hb)
          have hzy := HC1.out.len
          clear hN hC hV hb CC zr
          go_wp2
          go_loopw [15] (fun i wr => ∃ t : Nat, i = .int .i64 t ∧ t ≤ zy.length ∧ Hid (Below y1.heap.size y1 wr)) (fun i _ => zy.length - (intOf i).toNat)
          case atStart => exact ⟨0, rfl, Nat.zero_le _, Below.refl _ _⟩
          case round =>
            obtain ⟨t, rfl, ht, HBt⟩ := hrel
            by_cases hlt2 : t < zy.length
            · obtain ⟨-, hva⟩ := VY.out
              obtain ⟨b2, off2, rfl, hat⟩ := hva (by omega)
              have y0 := hat t hlt2
              have hyt := List.getElem?_eq_getElem (l := zy) (i := t) hlt2
              generalize zy[t]'hlt2 = y at y0 hyt
              have HT := M.hdc (HAS.out k z y zy HZK.out HC1.out (List.mem_of_getElem? hyt))
              have yr : wr.cell? ⟨b2, off2 + t, none⟩ = some (.int .i64 y) := (HBt.out.cell (p := ⟨b2, off2 + t, none⟩) (World.block_lt_of_cell? y1 _ y0)).trans y0
              have NVr : M.NV wr (some ⟨b, off, none⟩) zz.length zz := ⟨rfl, fun h => by
                obtain ⟨b', off', e, hc⟩ := V6.out.2 h
                exact ⟨b', off', e, fun i hi => ((M.sc BY.out HBt.out).cell (p := ⟨b', off' + i, none⟩) (World.block_lt_of_cell? x6 _ (hc i hi))).trans (hc i hi)⟩⟩
              have CH := lwHas_nv wr (some ⟨b, off, none⟩) zz.length cx zz y NVr (by omega)
              rw [HT.out] at CH
              have HCH := M.hdc CH
              clear hva hat hyt y0 NVr CH
              go_wp2_with fail
              refine HCH.out.mono ?_
              rintro e w' ⟨rfl, rfl⟩
              clear HCH
              go_wp2
              go_roundw
              case rel => exact ⟨t + 1, by go_num, by omega, HBt⟩
              case measure => simp [intOf]; omega
            · have HN2 := M.hdc (M.sc BY.out HBt.out)
              go_wp2
              go_roundw
              case rel => exact ⟨k + 1, by go_num, by omega, HN2⟩
              case measure => simp [intOf]; omega
        · go_wp2
          go_ret
          exact ⟨rfl, M.sc X6.out HBq.out⟩
end Go.Proofs.Ytfkadlnfkgheaaa
