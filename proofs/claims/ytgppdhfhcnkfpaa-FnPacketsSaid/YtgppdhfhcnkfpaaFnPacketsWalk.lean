/-
  The law of promise 11: the packets of a drawn text are right, and come together to it; with one byte turned none is right.
-/
import Derived.Test.YtgppdhfhcnkfpaaPacketsMath
import Derived.Test.YtgppdhfhcnkfpaaBytesTurn
import Derived.Test.YtgppdhfhcnkfpaaPart6
import Derived.Test.YtgppdhfhcnkfpaaLwAt
import Derived.Test.YtgppdhfhcnkfpaaIPieces
import Derived.Test.YtgppdhfhcnkfpaaSPieces
import Derived.Test.YtgppdhfhcnkfpaaIPktOf
import Derived.Test.YtgppdhfhcnkfpaaSPktOf
import Derived.Test.YtgppdhfhcnkfpaaIRecvd
import Derived.Test.YtgppdhfhcnkfpaaPktEq
import Derived.Test.YtgppdhfhcnkfpaaWide
import Derived.Deep.RegionWith
namespace Go.Proofs.Ytgppdhfhcnkfpaa
open Go.RowKit

theorem M.pktNe (q c : Int) (l : Bool) (s : ByteArray) (W : World) : (binOp .neq 29 (.agg #[.int .i64 q, .bool l, .string s, .int .i64 c]) (.agg #[.int .i64 q, .bool l, .string s, .int .i64 c])).run Try.prog W = .ok (.bool false) W := by
  rw [run_neq_struct, run_equalIn_agg W 9999 29 _ _ (by kernel_rfl) (by kernel_rfl)]
  have hf : (Try.prog.fieldsOf 29) = (match Try.prog.underlying 29 with | some (.struct f) => f | _ => #[]) := rfl
  rw [hf, Try.underlying29]
  simp [Op.eqFields, go_sem]
theorem M.pktGn (W : World) (x y : Operand) (xs ys : Array Value) : (eqGuard .neq 29 x y (.agg xs) (.agg ys)).run Try.prog W = .ok () W := run_eqGuard_agg W .neq 29 x y xs ys (by kernel_rfl)
theorem M.own_strs {W : World} {lo n c : Nat} {a : Option Addr} {ss : List ByteArray} (h : M.OwnS W lo (.slice a n c) ss) : M.Strs W a n c ss := by
  obtain ⟨a', c', e, hs⟩ := h.strs
  cases e
  exact hs

set_option maxRecDepth 100000 in
set_option maxHeartbeats 6400000 in
theorem fnPackets_walk (a0 : Option Addr) (len0 cap0 : Nat) (a1 : Option Addr) (len1 cap1 : Nat) (w : World) (hR0 : M.IsRow w a0 len0 cap0) (hR1 : M.IsRow w a1 len1 cap1) :
    Calls Try.prog 3 #[.slice a0 len0 cap0, .slice a1 len1 cap1] w fun e w' => e = .returned (.bool true) ∧ Below w.heap.size w w' := by
  have l0 := hR0.len_le
  have l1 := hR1.len_le
  have HR0 := M.hl hR0
  have HR1 := M.hl hR1
  clear hR0 hR1
  by_cases h0 : 1048576 < len0
  · have d0 : decide (1048576 < (len0 : Int)) = true := decide_eq_true (by omega)
    go_enter Try.func3, Try.ntmps3
    go_wp2
    go_ret
    exact ⟨rfl, Below.refl _ _⟩
  have d0 : decide (1048576 < (len0 : Int)) = false := decide_eq_false (by omega)
  by_cases h1 : 1048576 < len1
  · have d1 : decide (1048576 < (len1 : Int)) = true := decide_eq_true (by omega)
    go_enter Try.func3, Try.ntmps3
    go_wp2
    go_ret
    exact ⟨rfl, Below.refl _ _⟩
  have d1 : decide (1048576 < (len1 : Int)) = false := decide_eq_false (by omega)
  go_enter Try.func3, Try.ntmps3
  go_wp2_with fail
  refine (drawPieces_any _ a0 len0 cap0 HR0.out).mono ?_
  rintro e w1 ⟨t, rfl, ht, hb⟩
  have B1 := M.hl hb
  clear hb
  go_wp2_with fail
  refine (iPieces_any t w1 (by unfold maxLen; omega)).mono ?_
  rintro e w2 ⟨v2, rfl, hO, hb⟩
  have B2 := M.hl (M.sl B1.out hb)
  have hpl := M.piecesOf_len t
  obtain ⟨n, hn⟩ : ∃ n, (M.piecesOf t).length = n := ⟨_, rfl⟩
  obtain ⟨a2, c2, rfl⟩ := hO.lenN hn
  have O2 := M.hl hO
  have HNN := M.hl hn
  have hn3 : n ≤ 300 := by omega
  clear hb hO hpl hn
  go_wp2_with fail
  refine (sPieces_any t w2 (by unfold maxLen; omega)).mono ?_
  rintro e w3 ⟨v3, rfl, hO, hb⟩
  obtain ⟨a3, c3, rfl⟩ := hO.lenN HNN.out
  have B3 := M.hl (M.sl B2.out hb)
  have O3 := M.hl (O2.out.below hb)
  have dn : ((n : Int) != (n : Int)) = false := by simp
  clear hb hO O2
  by_cases hz : n = 0
  · have d2 : ((n : Int) == 0) = true := by rw [beq_iff_eq]; omega
    go_wp2
    go_ret
    exact ⟨rfl, B3.out⟩
  have d2 : ((n : Int) == 0) = false := by rw [beq_eq_false_iff_ne]; omega
  have ht2 : t.size ≤ 19200 := by
    by_cases e : 19200 < t.size
    · have := HNN.out
      unfold M.piecesOf at this
      rw [if_pos e] at this
      simp at this
      omega
    · omega
  have HP : Hid (M.piecesOf t = M.pieces t) := by show _ = _; unfold M.piecesOf; rw [if_neg (by omega)]
  obtain ⟨P, hP⟩ : ∃ P, P = M.pieces t := ⟨_, rfl⟩
  have hO3 := O3.out
  rw [HP.out, ← hP] at hO3
  have HPL : Hid (P.length = n) := by show _ = _; rw [hP, ← HP.out]; exact HNN.out
  have OP := M.hl hO3
  have HPP := M.hl hP
  have HFI : Hid (M.fits P = true) := by show _ = _; rw [hP]; exact M.pieces_fit ht2
  have H64 : Hid (∀ s ∈ P, s.size ≤ 64) := (M.fits_iff.1 HFI.out).2
  have HSZ : Hid (∀ s ∈ P, s.size ≤ maxLen) := fun s hs => by have := H64.out s hs; unfold maxLen; omega
  have ZP : Hid (∀ g, (Value.slice a2 n c2).ownBlock = some g → g < w3.heap.size) := fun g hg => (World.ownsRow.lt O3.out g hg).2
  have SP : Hid (∀ W, Below w3.heap.size w3 W → M.Strs W a2 n c2 P) := fun W hW => M.own_strs (OP.out.below hW)
  clear hO3 hP O3
  have BX : Hid (∀ o, Below w3.heap.size w3 (w3.alloc o)) := fun o => (Below.refl _ _).alloc (Nat.le_refl _) _
  go_wp2
  go_loopw [7, 9] (fun all ix wr => ∃ (i : Nat) (A : ByteArray) (v : Value), all = .string A ∧ ix = .int .i64 (i : Int) ∧ i ≤ n ∧ A.size ≤ 64 * i ∧ Hid (A.data.toList = M.cat (P.take i)) ∧ Hid (wr.heap[w3.heap.size]? = some (.cells #[v, .int .i64 (M.wantI n i)] 27 (0, 0))) ∧ Hid (M.OwnS wr w3.heap.size v (P.take i)) ∧ Hid (Below w3.heap.size w3 wr)) (fun _ ix _ => n - (intOf ix).toNat)
  case atStart => exact ⟨0, ⟨#[]⟩, .slice none 0 0, rfl, rfl, Nat.zero_le _, Nat.le_refl _, rfl, M.hl (by rw [show M.wantI n 0 = 0 by unfold M.wantI; rw [if_neg (by omega)]; rfl]; exact heap_alloc_new _ _), M.OwnS.nil _ _, BX.out _⟩
  case round =>
    obtain ⟨i, A, v, rfl, rfl, hi, hA, HA, HX, HO, HBr⟩ := hrel
    have hzr : w3.heap.size < wr.heap.size := (Array.getElem?_eq_some_iff.1 HX.out).1
    by_cases hlt : i < n
    · have hfk := List.getElem?_eq_getElem (l := P) (i := i) (by have := HPL.out; omega)
      generalize P[i]'(by have := HPL.out; omega) = s at hfk
      have HFK := M.hl hfk
      have hs64 := H64.out s (List.mem_of_getElem? hfk)
      have hpof : M.pof P (i : Int) = M.pmk P i s := M.pof_at HFI.out hfk
      have hright := M.pkt_right HFI.out hfk
      have hl1 : (P.take i).length = i := by rw [List.length_take]; have := HPL.out; omega
      obtain ⟨va, vc, rfl⟩ := HO.out.lenN hl1
      have HL1 := M.hl hl1
      obtain ⟨l, hl⟩ : ∃ l, l = (M.pmk P i s).l := ⟨_, rfl⟩
      obtain ⟨y, hy⟩ : ∃ y, y = (M.pmk P i s).c := ⟨_, rfl⟩
      have hval : M.pval (M.pof P (i : Int)) = .agg #[.int .i64 (i : Int), .bool l, .string s, .int .i64 y] := by rw [hpof, hl, hy]; rfl
      have CI : Hid (∀ W, Below w3.heap.size w3 W → Calls Try.prog 12 #[.slice a2 n c2, .int .i64 (i : Int)] W fun e w' => e = .returned (.agg #[.int .i64 (i : Int), .bool l, .string s, .int .i64 y]) ∧ Below W.heap.size W w') := fun W hW => by rw [← hval]; exact iPktOf_any W a2 n c2 P (i : Int) (SP.out W hW) HSZ.out
      have CS : Hid (∀ W, Below w3.heap.size w3 W → Calls Try.prog 14 #[.slice a2 n c2, .int .i64 (i : Int)] W fun e w' => e = .returned (.agg #[.int .i64 (i : Int), .bool l, .string s, .int .i64 y]) ∧ Below W.heap.size W w') := fun W hW => by rw [← hval]; exact sPktOf_any W a2 n c2 P (i : Int) (SP.out W hW) HSZ.out
      have hpr : M.pktR (i : Int) l s y = true := by rw [hl, hy]; exact hright
      have CR : Hid (∀ W, Calls Try.prog 13 #[.agg #[.int .i64 (i : Int), .bool l, .string s, .int .i64 y]] W fun e w' => e = .returned (.bool true) ∧ Below W.heap.size W w') := fun W => by rw [← hpr]; exact iPktR_any (i : Int) l s y W (by omega) (by omega) (by omega)
      have hrt : M.rcvR (P.take i) (M.wantI n i) = true := by
        have h1 := HPL.out
        have h2 := HPP.out
        subst h2
        rw [← h1]
        exact M.rcv_take ht2 (by omega)
      have hst : M.recv (P.take i) (M.wantI n i) (i : Int) l s = (P.take (i + 1), M.wantI n (i + 1), 0) := by
        have h1 := HPL.out
        have h2 := HPP.out
        subst h2
        rw [← h1, hl]
        exact M.recv_step hfk
      have hl2 : (P.take (i + 1)).length = i + 1 := by rw [List.length_take]; have := HPL.out; omega
      obtain ⟨X, hX⟩ : ∃ X, X = M.wantI n i := ⟨_, rfl⟩
      obtain ⟨X2, hX2⟩ : ∃ X2, X2 = M.wantI n (i + 1) := ⟨_, rfl⟩
      rw [← hX] at hrt hst
      rw [← hX2] at hst
      have CV : Hid (∀ W, M.OwnS W w3.heap.size (.slice va i vc) (P.take i) → Calls Try.prog 15 #[.agg #[.slice va i vc, .int .i64 X], .agg #[.int .i64 (i : Int), .bool l, .string s, .int .i64 y]] W fun e w' => ∃ v', e = .returned (.agg #[.slice none 0 0, .int .i64 0, .int .i64 0, .int .i64 0, v', .int .i64 X2, .slice none 0 0, .int .i64 ((i : Int) + 1), .int .i64 0]) ∧ M.OwnS w' W.heap.size v' (P.take (i + 1)) ∧ Below W.heap.size W w') := fun W hW => by
        have := iRecvAt_any W va i vc (P.take i) X (i : Int) l s y (M.own_strs hW) hrt hpr
        rw [hst] at this
        simp only [hl2] at this
        exact this
      have hEX := HX.out
      rw [← hX] at hEX
      have EX := M.hl hEX
      have HX2 := M.hl hX2
      have HL2 := M.hl hl2
      have HCAT : Hid ((A ++ s).data.toList = M.cat (P.take (i + 1))) := by show _ = _; rw [M.cat_snoc hfk, ByteArray.data_append, Array.toList_append, HA.out]
      have hsz2 : (A ++ s).size = A.size + s.size := ByteArray.size_append
      have HS2 := M.hl hsz2
      have had := fun W => run_string_add_sum (P := Try.prog) (w := W) A s (by omega)
      clear hfk hpof hright hl hy hval hpr hrt hst hX hX2 hEX hl1 hl2 hsz2
      go_wp2_with fail
      refine (CI.out _ HBr.out).mono ?_
      rintro e w4 ⟨rfl, hb⟩
      have BA4 : Hid (∀ o, Below w3.heap.size w3 (w4.alloc o)) := fun o => (M.sl HBr.out hb).alloc (M.sl HBr.out hb).size _
      have O4 : Hid (∀ o, M.OwnS (w4.alloc o) w3.heap.size (.slice va i vc) (P.take i)) := fun o => (HO.out.below hb).below ((Below.refl _ _).alloc (Nat.le_refl _) _)
      have hz4 : w3.heap.size < w4.heap.size := Nat.lt_of_lt_of_le hzr hb.size
      have E4 : Hid (∀ o, (w4.alloc o).heap[w3.heap.size]? = some (.cells #[.slice va i vc, .int .i64 X] 27 (0, 0))) := fun o => (heap_alloc_old _ _ hz4).trans ((hb.block _ hzr).trans EX.out)
      obtain ⟨W4, hW4⟩ : ∃ W4, W4 = w4.alloc (.cells #[.int .i64 (i : Int), .bool l, .string s, .int .i64 y] 29) := ⟨_, rfl⟩
      have B4 : Hid (Below w3.heap.size w3 W4) := by rw [hW4]; exact BA4.out _
      have OW4 : Hid (M.OwnS W4 w3.heap.size (.slice va i vc) (P.take i)) := by rw [hW4]; exact O4.out _
      have EW4 : Hid (W4.heap[w3.heap.size]? = some (.cells #[.slice va i vc, .int .i64 X] 27 (0, 0))) := by rw [hW4]; exact E4.out _
      have EP4 : Hid (W4.heap[w4.heap.size]? = some (.cells #[.int .i64 (i : Int), .bool l, .string s, .int .i64 y] 29 (0, 0))) := by rw [hW4]; exact heap_alloc_new _ _
      have HW4 := M.hl hW4
      clear hb hW4 BA4 O4 E4
      have dl : (s.toList == s.toList) = true := by simp
      go_wp2_with fail
      rw [← HW4.out]
      have z4 : w4.heap.size < W4.heap.size := (Array.getElem?_eq_some_iff.1 EP4.out).1
      have z3 : w3.heap.size < W4.heap.size := (Array.getElem?_eq_some_iff.1 EW4.out).1
      have m0 : ∀ y : M.Wd W4, y.val.cell? ⟨w4.heap.size, 0, none⟩ = some (.int .i64 (i : Int)) := fun y => M.bk_cell ((y.bel.block _ z4).trans EP4.out) 0 _ rfl
      have m1 : ∀ y : M.Wd W4, y.val.cell? ⟨w4.heap.size, 1, none⟩ = some (.bool l) := fun y => M.bk_cell ((y.bel.block _ z4).trans EP4.out) 1 _ rfl
      have m2 : ∀ y : M.Wd W4, y.val.cell? ⟨w4.heap.size, 2, none⟩ = some (.string s) := fun y => M.bk_cell ((y.bel.block _ z4).trans EP4.out) 2 _ rfl
      have m3 : ∀ u : M.Wd W4, u.val.cell? ⟨w4.heap.size, 3, none⟩ = some (.int .i64 y) := fun u => M.bk_cell ((u.bel.block _ z4).trans EP4.out) 3 _ rfl
      have qg := M.pktGn
      have qe := fun W => M.pktNe (i : Int) y l s W
      have CRX : Hid (∀ x : M.Wd W4, Calls Try.prog 13 #[.agg #[.int .i64 (i : Int), .bool l, .string s, .int .i64 y]] x.val fun e w' => e = .returned (.bool true) ∧ Below x.val.heap.size x.val w') := fun x => CR.out x.val
      have CSX : Hid (∀ x : M.Wd W4, Calls Try.prog 14 #[.slice a2 n c2, .int .i64 (i : Int)] x.val fun e w' => e = .returned (.agg #[.int .i64 (i : Int), .bool l, .string s, .int .i64 y]) ∧ Below x.val.heap.size x.val w') := fun x => CS.out x.val (M.sl B4.out x.bel)
      refine M.wp_region_wd (by kernel_rfl) (by kernel_rfl) (fun _ => ?_)
      repeat (first | go_big_quiet_skip | (go_big_quiet_want; go_big_quiet_op; first | go_big_quiet_on | (apply Exists.intro; refine ⟨fun x => ?_, ?_⟩; exact M.Wd.call x (CRX.out x); go_big_quiet_on) | (apply Exists.intro; refine ⟨fun x => ?_, ?_⟩; exact M.Wd.call x (CSX.out x); go_big_quiet_on)))
      refine wpQuiet_nil ?_
      intro w9 hw'
      have HB9 : Hid (Below W4.heap.size W4 w9) := by obtain ⟨x, rfl⟩ := hw'; exact x.bel
      have B9 := M.hl (M.sl B4.out HB9.out)
      have O9 := M.hl (OW4.out.below HB9.out)
      have E9 := M.hl ((HB9.out.block _ z3).trans EW4.out)
      have EP9 := M.hl ((HB9.out.block _ z4).trans EP4.out)
      clear hw' m0 m1 m2 m3 qg qe CRX CSX OW4 EW4 EP4
      have p0 := M.bk_cell EP9.out 0 (.int .i64 (i : Int)) rfl
      have p1 := M.bk_cell EP9.out 1 (.bool l) rfl
      have p2 := M.bk_cell EP9.out 2 (.string s) rfl
      have p3 := M.bk_cell EP9.out 3 (.int .i64 y) rfl
      have x0 := M.bk_cell E9.out 0 (.slice va i vc) rfl
      have x1 := M.bk_cell E9.out 1 (.int .i64 X) rfl
      have z9 : w3.heap.size < w9.heap.size := (Array.getElem?_eq_some_iff.1 E9.out).1
      go_wp2_with fail
      refine (CV.out w9 O9.out).mono ?_
      rintro e w10 ⟨v', rfl, hO10, hb⟩
      obtain ⟨va', vc', rfl⟩ := hO10.lenN HL2.out
      have O10 := M.hl hO10
      have B10 := M.hl (M.sl B9.out hb)
      have z10 : w3.heap.size < w10.heap.size := Nat.lt_of_lt_of_le z9 hb.size
      have E10 := M.hl ((hb.block _ z9).trans E9.out)
      have Z9 := M.hl z9
      have y0 := M.bk_cell E10.out 0 (.slice va i vc) rfl
      have y1 := M.bk_cell E10.out 1 (.int .i64 X) rfl
      have fy := M.bk_free E10.out
      have hne : ¬ (w3.heap.size = w10.heap.size) := by omega
      have di : (((i : Int) + 1) != ((i : Int) + 1)) = false := by simp
      clear hO10 hb p0 p1 p2 p3 x0 x1 z9 E9 EP9
      go_wp2
      go_roundw
      case rel =>
        refine ⟨i + 1, A ++ s, .slice va' (i + 1) vc', rfl, by go_num, by omega, by rw [HS2.out]; omega, HCAT, ?_, ?_, ?_⟩
        · show _ = _
          rw [← HX2.out]
          have e1 : (w10.setCell ⟨w3.heap.size, 0, none⟩ (.slice va' (i + 1) vc')).heap[w3.heap.size]? = some (.cells #[.slice va' (i + 1) vc', .int .i64 X] 27 (0, 0)) := M.set1h E10.out
          have e2 : ((w10.setCell ⟨w3.heap.size, 0, none⟩ (.slice va' (i + 1) vc')).setCell ⟨w3.heap.size, 1, none⟩ (.int .i64 X2)).heap[w3.heap.size]? = some (.cells #[.slice va' (i + 1) vc', .int .i64 X2] 27 (0, 0)) := M.set1h e1
          exact (heap_alloc_old _ _ (Array.getElem?_eq_some_iff.1 e2).1).trans e2
        · have hN : ∀ g, (Value.slice va' (i + 1) vc').ownBlock = some g → g ≠ w3.heap.size := fun g hg => by have := (World.ownsRow.lt O10.out g hg).1; have := Z9.out; omega
          exact (((O10.out.setN hN _ _).setN hN _ _).below ((Below.refl _ _).alloc (Nat.le_refl _) _)).lower (base := w9.heap.size) (by have := Z9.out; omega)
        · have b2 : Below w3.heap.size w3 ((w10.setCell ⟨w3.heap.size, 0, none⟩ (.slice va' (i + 1) vc')).setCell ⟨w3.heap.size, 1, none⟩ (.int .i64 X2)) := M.stB (M.stB B10.out (Nat.le_refl _) _ _) (Nat.le_refl _) _ _
          exact b2.alloc b2.size _
      case measure => simp [intOf]; omega
    · obtain rfl : i = n := by omega
      have hT : A = t := by
        have h1 := HA.out
        rw [List.take_of_length_le (by rw [HPL.out]; exact Nat.le_refl _), HPP.out, M.pieces_cat] at h1
        exact ByteArray.ext (Array.toList_inj.1 h1)
      subst hT
      have hta : P.take i = P := List.take_of_length_le (by rw [HPL.out]; exact Nat.le_refl _)
      have hOn := HO.out
      have hXn := HX.out
      rw [hta] at hOn
      rw [show M.wantI i i = -1 by unfold M.wantI; rw [if_pos rfl]] at hXn
      have ON := M.hl hOn
      have XN := M.hl hXn
      have HRC : Hid (M.rcvd P (-1) = A) := by
        show _ = _
        have h1 : M.rcvR P (-1) = true := by
          have h2 := M.rcv_take (i := (M.pieces A).length) ht2 (Nat.le_refl _)
          rw [List.take_length, show M.wantI (M.pieces A).length (M.pieces A).length = -1 by unfold M.wantI; rw [if_pos rfl], ← HPP.out] at h2
          exact h2
        unfold M.rcvd
        rw [if_pos ⟨h1, rfl⟩, HPP.out, M.pieces_cat]
      clear hOn hXn hta HA HX HO
      have B3r : Hid (Below w.heap.size w wr) := M.sl B3.out HBr.out
      have dA : (A.toList == A.toList) = true := by simp
      obtain ⟨va, vc, rfl⟩ := ON.out.lenN HPL.out
      have CRV : Hid (∀ W, M.OwnS W w3.heap.size (.slice va i vc) P → Calls Try.prog 17 #[.agg #[.slice va i vc, .int .i64 (-1)]] W fun e w' => e = .returned (.string A) ∧ Below W.heap.size W w') := fun W hW => by
        rw [← HRC.out]; exact iRecvd_any W va i vc P (-1) (M.own_strs hW) HSZ.out
      go_wp2_with fail
      refine (lwAt_any wr a1 len1 cap1 0 (i : Int) (HR1.out.below B3r.out) (by omega) (by omega)).mono ?_
      rintro e w5 ⟨k, rfl, ⟨hk0, hk1, hk2⟩, rfl⟩
      obtain ⟨k, rfl⟩ := Int.eq_ofNat_of_zero_le hk0
      have hki : k < i := by
        by_cases e : 1 < (i : Int)
        · have := hk1 e; omega
        · have := hk2 (by omega); omega
      have hfk := List.getElem?_eq_getElem (l := P) (i := k) (by have := HPL.out; omega)
      generalize P[k]'(by have := HPL.out; omega) = s at hfk
      have hs64 := H64.out s (List.mem_of_getElem? hfk)
      have hpof : M.pof P (k : Int) = M.pmk P k s := M.pof_at HFI.out hfk
      obtain ⟨l, hl⟩ : ∃ l, l = (M.pmk P k s).l := ⟨_, rfl⟩
      obtain ⟨y, hy⟩ : ∃ y, y = (M.pmk P k s).c := ⟨_, rfl⟩
      have hval : M.pval (M.pof P (k : Int)) = .agg #[.int .i64 (k : Int), .bool l, .string s, .int .i64 y] := by rw [hpof, hl, hy]; rfl
      have hyc : y = M.pcrc (k : Int) l s := by rw [hy, hl]; rfl
      have HYC := M.hl hyc
      have CI : Hid (Calls Try.prog 12 #[.slice a2 i c2, .int .i64 (k : Int)] wr fun e w' => e = .returned (.agg #[.int .i64 (k : Int), .bool l, .string s, .int .i64 y]) ∧ Below wr.heap.size wr w') := by
        show Calls _ _ _ _ _
        rw [← hval]; exact iPktOf_any wr a2 i c2 P (k : Int) (SP.out wr HBr.out) HSZ.out
      clear hk1 hk2 hk0 hfk hpof hl hy hval hyc
      go_wp2_with fail
      refine CI.out.mono ?_
      rintro e w6 ⟨rfl, hb⟩
      have B6 := M.hl (M.sl B3r.out hb)
      have X6 := M.hl ((hb.block _ hzr).trans XN.out)
      have O6 := M.hl (ON.out.below hb)
      have z6 : w3.heap.size < w6.heap.size := (Array.getElem?_eq_some_iff.1 X6.out).1
      clear hb CI XN ON
      by_cases hs0 : s.size = 0
      · have ds : decide (0 < (s.size : Int)) = false := decide_eq_false (by omega)
        have ds' : decide (0 < s.size) = false := decide_eq_false (by omega)
        have x0 : ∀ o, (w6.alloc o).cell? ⟨w3.heap.size, 0, none⟩ = some (.slice va i vc) := fun o => M.bk_cell ((heap_alloc_old _ _ z6).trans X6.out) 0 _ rfl
        have x1 : ∀ o, (w6.alloc o).cell? ⟨w3.heap.size, 1, none⟩ = some (.int .i64 (-1)) := fun o => M.bk_cell ((heap_alloc_old _ _ z6).trans X6.out) 1 _ rfl
        have OX : Hid (∀ o, M.OwnS (w6.alloc o) w3.heap.size (.slice va i vc) P) := fun o => O6.out.below ((Below.refl _ _).alloc (Nat.le_refl _) _)
        have BXX : Hid (∀ o, Below w.heap.size w (w6.alloc o)) := fun o => B6.out.alloc B6.out.size _
        clear hs0
        go_wp2_with fail
        refine (CRV.out _ (OX.out _)).mono ?_
        rintro e w7 ⟨rfl, hb⟩
        have B7 := M.hl (M.sl (BXX.out _) hb)
        clear hb x0 x1
        go_wp2
        go_ret
        exact ⟨rfl, B7.out⟩
      · have ds : decide (0 < (s.size : Int)) = true := decide_eq_true (by omega)
        have ds' : decide (0 < s.size) = true := decide_eq_true (by omega)
        obtain ⟨W6, hW6⟩ : ∃ W6, W6 = w6.alloc (.cells #[.int .i64 (k : Int), .bool l, .string s, .int .i64 y] 29) := ⟨_, rfl⟩
        have BW6 : Hid (Below w.heap.size w W6) := by rw [hW6]; exact B6.out.alloc B6.out.size _
        have OW6 : Hid (M.OwnS W6 w3.heap.size (.slice va i vc) P) := by rw [hW6]; exact O6.out.below ((Below.refl _ _).alloc (Nat.le_refl _) _)
        have XW6 : Hid (W6.heap[w3.heap.size]? = some (.cells #[.slice va i vc, .int .i64 (-1)] 27 (0, 0))) := by rw [hW6]; exact (heap_alloc_old _ _ z6).trans X6.out
        have PW6 : Hid (W6.heap[w6.heap.size]? = some (.cells #[.int .i64 (k : Int), .bool l, .string s, .int .i64 y] 29 (0, 0))) := by rw [hW6]; exact heap_alloc_new _ _
        have hWS : w6.heap.size < W6.heap.size := (Array.getElem?_eq_some_iff.1 PW6.out).1
        obtain ⟨w7, cap, hcv, hb7, hcell, hfree⟩ := M.bytes_new (P := Try.prog) W6 9 22 5 s Try.underlying9 Try.underlying22 Try.underlying5
        have B7 := M.hl (M.sl BW6.out hb7)
        have O7 := M.hl (OW6.out.below hb7)
        have X7 := M.hl ((hb7.block _ (Array.getElem?_eq_some_iff.1 XW6.out).1).trans XW6.out)
        have P7 := M.hl ((hb7.block _ hWS).trans PW6.out)
        have hw76 : W6.heap.size < w7.heap.size := World.block_lt_of_cell? w7 ⟨W6.heap.size, 0, none⟩ (hcell 0 (by omega))
        have hWsz : W6.heap.size = w6.heap.size + 1 := by rw [hW6]; simp
        have hcv' : (convert 9 22 (.string s)).run Try.prog (w6.alloc (.cells #[.int .i64 (k : Int), .bool l, .string s, .int .i64 y] 29)) = .ok (.slice (some ⟨w6.heap.size + 1, 0, none⟩) s.size cap) w7 := by rw [← hW6, ← hWsz]; exact hcv
        rw [hWsz] at hcell hfree hw76
        have HC := M.hl hcell
        have HF := M.hl hfree
        have HZ := M.hl z6
        have ZV : Hid (∀ g, (Value.slice va i vc).ownBlock = some g → g < w6.heap.size) := fun g hg => (World.ownsRow.lt O6.out g hg).2
        clear hcv hb7 hcell hfree hW6 BW6 OW6 XW6 PW6 hWS hWsz X6 O6
        go_wp2_with fail
        refine (lwAt_any _ a1 len1 cap1 1 (s.size : Int) (HR1.out.below B7.out) (by omega) (by omega)).mono ?_
        rintro e w8 ⟨j, rfl, ⟨hj0, hj1, hj2⟩, rfl⟩
        obtain ⟨j, rfl⟩ := Int.eq_ofNat_of_zero_le hj0
        have hjs : j < s.size := by
          by_cases e : 1 < (s.size : Int)
          · have := hj1 e; omega
          · have := hj2 (by omega); omega
        have ck := HC.out j hjs
        have fk := HF.out j hjs
        obtain ⟨c, hc⟩ : ∃ c : UInt8, c = s.data.toList.getD j 0 := ⟨_, rfl⟩
        rw [← hc] at ck
        have HCC := M.hl hc
        have HRD : Hid (M.IsRow w7.drew a1 len1 cap1) := HR1.out.below B7.out.drew
        clear hj0 hj1 hj2 hcv' hc
        go_wp2_with fail
        go_region_with (go_at_call 16; refine (lwAt_any _ a1 len1 cap1 2 255 (by exact HRD.out) (by omega) (by omega)).mono ?_; rintro e w9 ⟨v, rfl, hv, rfl⟩; obtain ⟨v0, v1, _⟩ := hv; have v2 := v1 (by omega); have hwi : IntKind.i64.wrap (1 + v) = 1 + v := (by rw [IntKind.wrap_i64]; omega); have hwu : IntKind.u8.wrap (1 + v) = 1 + v := (by rw [IntKind.wrap_u8]; omega))
        all_goals
          obtain ⟨d, hd, hcd⟩ := M.xor_byte c v v0 v2
          try rw [hd]
          have hsp := M.set_parts s.data.toList j d (by rw [← Lib.size_eq]; exact hjs)
          rw [← HCC.out] at hsp
          obtain ⟨W8, hW8⟩ : ∃ W8, W8 = (w7.setCell ⟨w6.heap.size + 1, j, none⟩ (.int .u8 (d.toNat : Int))).drew := ⟨_, rfl⟩
          have hcb := M.conv_set (P := Try.prog) (w7 := W8) (cap := cap) Try.underlying22 Try.underlying5 Try.underlying9 hjs HC.out (d := d) (fun q => by rw [hW8]; rfl)
          have HFS : Hid (M.pktR (k : Int) l ⟨(s.data.toList.set j d).toArray⟩ y = false) := by show _ = _; rw [HYC.out]; exact M.pkt_turned hs64 _ _ _ _ hsp.1 hsp.2 hcd
          have hS's : (⟨(s.data.toList.set j d).toArray⟩ : ByteArray).size ≤ 64 := by rw [Lib.size_eq]; simp only [List.length_set]; rw [← Lib.size_eq]; exact hs64
          have P8 : Hid (W8.heap[w6.heap.size]? = some (.cells #[.int .i64 (k : Int), .bool l, .string s, .int .i64 y] 29 (0, 0))) := by rw [hW8]; exact (M.setfr (by omega)).trans P7.out
          have X8 : Hid (W8.heap[w3.heap.size]? = some (.cells #[.slice va i vc, .int .i64 (-1)] 27 (0, 0))) := by rw [hW8]; exact (M.setfr (by have := HZ.out; omega)).trans X7.out
          have O8 : Hid (M.OwnS W8 w3.heap.size (.slice va i vc) P) := by
            rw [hW8]
            exact (O7.out.setN (fun g hg => by have := ZV.out g hg; omega) _ _).below (Below.refl _ _).drew
          have B8 : Hid (Below w.heap.size w W8) := by rw [hW8]; exact (M.stB B7.out (by have := B6.out.size; omega) _ _).trans (Below.refl _ _).drew
          have z8 : w3.heap.size < W8.heap.size := (Array.getElem?_eq_some_iff.1 X8.out).1
          have zp8 : w6.heap.size < W8.heap.size := (Array.getElem?_eq_some_iff.1 P8.out).1
          generalize (⟨(s.data.toList.set j d).toArray⟩ : ByteArray) = S' at hcb HFS hS's
          have CRF : Hid (∀ W, Calls Try.prog 13 #[.agg #[.int .i64 (k : Int), .bool l, .string S', .int .i64 y]] W fun e w' => e = .returned (.bool false) ∧ Below W.heap.size W w') := fun W => by rw [← HFS.out]; exact iPktR_any (k : Int) l S' y W (by omega) (by omega) (by omega)
          have k0 := M.bk_cell P8.out 0 (.int .i64 (k : Int)) rfl
          have k1 := M.bk_cell P8.out 1 (.bool l) rfl
          have k2 := M.bk_cell P8.out 2 (.string s) rfl
          have k3 := M.bk_cell P8.out 3 (.int .i64 y) rfl
          have fk8 := M.bk_free P8.out
          have HW8 := M.hl hW8
          have Z8 := M.hl z8
          clear hsp hW8 hd hcd ck fk v0 v1 v2 hwi hwu z8 zp8 hS's O7 X7 P7
          try rw [← HW8.out]
          go_wp2_with fail
          refine (CRF.out _).mono ?_
          rintro e w10 ⟨rfl, hb⟩
          have E9 : (W8.setCell ⟨w6.heap.size, 2, none⟩ (.string S')).heap[w3.heap.size]? = some (.cells #[.slice va i vc, .int .i64 (-1)] 27 (0, 0)) := (M.setfr (by have := HZ.out; omega)).trans X8.out
          have X10 := M.hl ((hb.block w3.heap.size (Array.getElem?_eq_some_iff.1 E9).1).trans E9)
          have O10 := M.hl ((O8.out.setN (H := w6.heap.size) (fun g hg => by have := ZV.out g hg; omega) 2 (.string S')).below hb)
          have B9 : Below w.heap.size w (W8.setCell ⟨w6.heap.size, 2, none⟩ (.string S')) := M.stB B8.out B6.out.size _ _
          have B10 := M.hl (M.sl B9 hb)
          clear hb E9 B9 k0 k1 k2 k3 fk8
          have x0 := M.bk_cell X10.out 0 (.slice va i vc) rfl
          have x1 := M.bk_cell X10.out 1 (.int .i64 (-1)) rfl
          go_wp2_with fail
          refine (CRV.out w10 O10.out).mono ?_
          rintro e w11 ⟨rfl, hb⟩
          have B11 := M.hl (M.sl B10.out hb)
          clear hb x0 x1
          go_wp2
          go_ret
          exact ⟨rfl, B11.out⟩
end Go.Proofs.Ytgppdhfhcnkfpaa
