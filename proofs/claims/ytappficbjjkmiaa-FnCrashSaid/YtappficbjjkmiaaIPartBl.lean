/-
  What partBlocks of the program does.
-/
import Derived.Test.YtappficbjjkmiaaPart10
import Derived.Test.YtappficbjjkmiaaWide
namespace Go.Proofs.Ytappficbjjkmiaa
open Go.RowKit

theorem M.Strs.sub {w : World} {a : Option Addr} {n c : Nat} {ss : List ByteArray} (h : M.Strs w a n c ss) (S m : Nat) (hm : S + m ≤ n) : M.Strs w (a.map fun x => x.add S) m (c - S) ((ss.drop S).take m) := by
  obtain ⟨h1, h2, h3, h4⟩ := h
  refine ⟨by rw [List.length_take, List.length_drop]; omega, by omega, by omega, fun hl => ?_⟩
  obtain ⟨b, off, rfl, hf⟩ := h4 (by omega)
  refine ⟨b, off + S, by rw [Option.map_some, Addr.add_lit], fun i hi => ?_⟩
  have hi2 : i < m := by rw [List.length_take] at hi; omega
  rw [List.getElem_take, List.getElem_drop, Nat.add_assoc]
  exact hf (S + i) (by omega)
/-- The blocks that a part tells, as a slice of those. -/
def M.partV (w : World) (ts : List M.TapeD) (p : M.PartD) (v : Value) : Prop :=
  (M.partB ts p = none ∧ v = .tuple #[.slice none 0 0, .bool false]) ∨ ∃ bs a n c, M.partB ts p = some bs ∧ v = .tuple #[.slice a n c, .bool true] ∧ M.Strs w a n c bs

set_option maxRecDepth 100000 in
set_option maxHeartbeats 3200000 in
theorem iPartBl_any (w0 w : World) (a : Option Addr) (n c : Nat) (ts : List M.TapeD) (q l s m : Int) (h : M.Tps w0 a n c ts) (hw : Below w0.heap.size w0 w) (hs1 : -9223372036854775808 ≤ s ∧ s ≤ 9223372036854775807) (hm1 : -9223372036854775808 ≤ m ∧ m ≤ 9223372036854775807) (hbl : ∀ t ∈ ts, t.ss.length ≤ 300) :
    Calls Try.prog 54 #[.slice a n c, .agg #[.int .i64 q, .int .i64 l, .int .i64 s, .int .i64 m]] w fun e w' => (∃ v, e = .returned v ∧ M.partV w0 ts ⟨q, l, s, m⟩ v) ∧ Below w.heap.size w w' := by
  have hlm := h.max
  have HF := M.hl h
  have H0 := M.hl hw
  have HN : Hid (n = ts.length) := h.1
  have HB : Hid (∀ o, Below w.heap.size w (w.alloc o)) := fun o => (Below.refl _ _).alloc (Nat.le_refl _) _
  have CI : Hid (∀ W u, decide (0 ≤ q ∧ q < (n : Int)) = u → Calls Try.prog 65 #[.slice a n c, .int .i64 q] W fun e w' => e = .returned (.bool u) ∧ Below W.heap.size W w') := fun W u hu => by rw [← hu]; exact (iIsTape_any W a n c q hlm).mono (by rintro e w' ⟨rfl, rfl⟩; exact ⟨rfl, Below.refl _ _⟩)
  obtain ⟨W1, hW1⟩ : ∃ W1, W1 = w.alloc (.cells #[.int .i64 q, .int .i64 l, .int .i64 s, .int .i64 m] 47) := ⟨_, rfl⟩
  have V1 : Hid (W1.heap[w.heap.size]? = some (.cells #[.int .i64 q, .int .i64 l, .int .i64 s, .int .i64 m] 47 (0, 0))) := by rw [hW1]; exact heap_alloc_new _ _
  have B1 : Hid (Below w.heap.size w W1) := by rw [hW1]; exact HB.out _
  have HW1 := M.hl hW1
  have k0 : ∀ x : M.Wd W1, x.val.cell? ⟨w.heap.size, 0, none⟩ = some (.int .i64 q) := M.Wd.cell (M.bk_cell V1.out 0 _ rfl)
  have k1 : ∀ x : M.Wd W1, x.val.cell? ⟨w.heap.size, 1, none⟩ = some (.int .i64 l) := M.Wd.cell (M.bk_cell V1.out 1 _ rfl)
  have k2 : ∀ x : M.Wd W1, x.val.cell? ⟨w.heap.size, 2, none⟩ = some (.int .i64 s) := M.Wd.cell (M.bk_cell V1.out 2 _ rfl)
  have k3 : ∀ x : M.Wd W1, x.val.cell? ⟨w.heap.size, 3, none⟩ = some (.int .i64 m) := M.Wd.cell (M.bk_cell V1.out 3 _ rfl)
  clear h hW1 hw
  by_cases hq : 0 ≤ q ∧ q < (n : Int)
  case neg =>
    have HX : Hid (M.partB ts ⟨q, l, s, m⟩ = none) := M.partB_no (by have := HN.out; simp only; omega)
    have C1 : Hid (∀ W, Calls Try.prog 65 #[.slice a n c, .int .i64 q] W fun e w' => e = .returned (.bool false) ∧ Below W.heap.size W w') := fun W => CI.out W false (decide_eq_false hq)
    clear hq
    go_enter Try.func54, Try.ntmps54
    go_wp2_with fail
    rw [← HW1.out]
    refine M.wp_region_wd (by kernel_rfl) (by kernel_rfl) (fun _ => ?_)
    repeat (first | go_big_quiet_skip | (go_big_quiet_want; go_big_quiet_op; first | go_big_quiet_on | (apply Exists.intro; refine ⟨fun x => ?_, ?_⟩; (with_reducible exact M.Wd.call x (C1.out x.val)); go_big_quiet_on)))
    refine wpQuiet_nil ?_
    intro wz hw'
    have hbz : Below W1.heap.size W1 wz := by obtain ⟨x, rfl⟩ := hw'; exact x.bel
    have BW := M.hl (M.sl B1.out hbz)
    have HBZ := M.hl hbz
    clear hw' hbz
    go_wp2
    go_ret2
    exact ⟨⟨_, rfl, .inl ⟨HX.out, rfl⟩⟩, BW.out⟩
  have C1 : Hid (∀ W, Calls Try.prog 65 #[.slice a n c, .int .i64 q] W fun e w' => e = .returned (.bool true) ∧ Below W.heap.size W w') := fun W => CI.out W true (decide_eq_true hq)
  obtain ⟨hq0, hq1⟩ := hq
  obtain ⟨Q, rfl⟩ := Int.eq_ofNat_of_zero_le hq0
  have hQ : Q < n := by omega
  obtain ⟨b, off, t, rfl, hfk, hat⟩ := HF.out.at hQ
  have HPB := M.hl (M.partB_at (p := ⟨(Q : Int), l, s, m⟩) rfl hfk)
  have HBL := M.hl (hbl t (List.mem_of_getElem? hfk))
  obtain ⟨lab, ss, sy, ro⟩ := t
  obtain ⟨c0, ⟨a1, n1, k1', c1, hst, hnz⟩, -, -⟩ := hat
  simp only at c0 c1 hst HPB HBL
  have HN1 : Hid (n1 = ss.length) := hst.1
  have hn1 : n1 ≤ 300 := by have := HN1.out; have := HBL.out; omega
  have hnc := hst.2.1
  have hkm := hst.2.2.1
  have HST := M.hl hst
  have B01 := M.hl (M.sl H0.out B1.out)
  have c0 := (B01.out.cell (p := ⟨b, off + Q * 4, none⟩) (World.block_lt_of_cell? w0 _ c0)).trans c0
  have c1 := (B01.out.cell (p := ⟨b, off + Q * 4 + 1, none⟩) (World.block_lt_of_cell? w0 _ c1)).trans c1
  have HNZ := M.hl hnz
  have r0 : ∀ x : M.Wd W1, x.val.cell? ⟨b, off + Q * 4, none⟩ = some (.int .i64 lab) := M.Wd.cell c0
  clear hfk hst hbl c0 hnz
  by_cases hl : lab = l
  case neg =>
    have HX : Hid (M.partB ts ⟨(Q : Int), l, s, m⟩ = none) := by show _ = _; rw [HPB.out, if_neg (fun hc => hl hc.1)]
    have d1 : (lab != l) = true := by rw [bne_iff_ne]; exact hl
    clear hl c1
    go_enter Try.func54, Try.ntmps54
    go_wp2_with fail
    rw [← HW1.out]
    refine M.wp_region_wd (by kernel_rfl) (by kernel_rfl) (fun _ => ?_)
    repeat (first | go_big_quiet_skip | (go_big_quiet_want; go_big_quiet_op; first | go_big_quiet_on | (apply Exists.intro; refine ⟨fun x => ?_, ?_⟩; (with_reducible exact M.Wd.call x (C1.out x.val)); go_big_quiet_on)))
    refine wpQuiet_nil ?_
    intro wz hw'
    have hbz : Below W1.heap.size W1 wz := by obtain ⟨x, rfl⟩ := hw'; exact x.bel
    have BW := M.hl (M.sl B1.out hbz)
    have HBZ := M.hl hbz
    clear hw' hbz
    go_wp2
    go_ret2
    exact ⟨⟨_, rfl, .inl ⟨HX.out, rfl⟩⟩, BW.out⟩
  subst hl
  have d1 : (lab != lab) = false := by simp
  by_cases hs0 : s < 0
  case pos =>
    have HX : Hid (M.partB ts ⟨(Q : Int), lab, s, m⟩ = none) := by show _ = _; rw [HPB.out, if_neg (fun hc => by have := hc.2.1; omega)]
    have d2 : decide (s < 0) = true := decide_eq_true hs0
    clear c1
    go_enter Try.func54, Try.ntmps54
    go_wp2_with fail
    rw [← HW1.out]
    refine M.wp_region_wd (by kernel_rfl) (by kernel_rfl) (fun _ => ?_)
    repeat (first | go_big_quiet_skip | (go_big_quiet_want; go_big_quiet_op; first | go_big_quiet_on | (apply Exists.intro; refine ⟨fun x => ?_, ?_⟩; (with_reducible exact M.Wd.call x (C1.out x.val)); go_big_quiet_on)))
    refine wpQuiet_nil ?_
    intro wz hw'
    have hbz : Below W1.heap.size W1 wz := by obtain ⟨x, rfl⟩ := hw'; exact x.bel
    have BW := M.hl (M.sl B1.out hbz)
    have HBZ := M.hl hbz
    clear hw' hbz
    go_wp2
    go_ret2
    exact ⟨⟨_, rfl, .inl ⟨HX.out, rfl⟩⟩, BW.out⟩
  have d2 : decide (s < 0) = false := decide_eq_false hs0
  by_cases hm0 : m < 0
  case pos =>
    have HX : Hid (M.partB ts ⟨(Q : Int), lab, s, m⟩ = none) := by show _ = _; rw [HPB.out, if_neg (fun hc => by have := hc.2.2.1; omega)]
    have d3 : decide (m < 0) = true := decide_eq_true hm0
    clear c1
    go_enter Try.func54, Try.ntmps54
    go_wp2_with fail
    rw [← HW1.out]
    refine M.wp_region_wd (by kernel_rfl) (by kernel_rfl) (fun _ => ?_)
    repeat (first | go_big_quiet_skip | (go_big_quiet_want; go_big_quiet_op; first | go_big_quiet_on | (apply Exists.intro; refine ⟨fun x => ?_, ?_⟩; (with_reducible exact M.Wd.call x (C1.out x.val)); go_big_quiet_on)))
    refine wpQuiet_nil ?_
    intro wz hw'
    have hbz : Below W1.heap.size W1 wz := by obtain ⟨x, rfl⟩ := hw'; exact x.bel
    have BW := M.hl (M.sl B1.out hbz)
    have HBZ := M.hl hbz
    clear hw' hbz
    go_wp2
    go_ret2
    exact ⟨⟨_, rfl, .inl ⟨HX.out, rfl⟩⟩, BW.out⟩
  have d3 : decide (m < 0) = false := decide_eq_false hm0
  obtain ⟨S, rfl⟩ := Int.eq_ofNat_of_zero_le (show 0 ≤ s by omega)
  obtain ⟨Mm, rfl⟩ := Int.eq_ofNat_of_zero_le (show 0 ≤ m by omega)
  by_cases hlen : (n1 : Int) - (S : Int) < (Mm : Int)
  case pos =>
    have HX : Hid (M.partB ts ⟨(Q : Int), lab, (S : Int), (Mm : Int)⟩ = none) := by show _ = _; rw [HPB.out, if_neg (fun hc => by have := hc.2.2.2; have := HN1.out; omega)]
    have d4 : decide ((n1 : Int) - (S : Int) < (Mm : Int)) = true := decide_eq_true hlen
    go_enter Try.func54, Try.ntmps54
    go_wp2_with fail
    rw [← HW1.out]
    refine M.wp_region_wd (by kernel_rfl) (by kernel_rfl) (fun _ => ?_)
    repeat (first | go_big_quiet_skip | (go_big_quiet_want; go_big_quiet_op; first | go_big_quiet_on | (apply Exists.intro; refine ⟨fun x => ?_, ?_⟩; (with_reducible exact M.Wd.call x (C1.out x.val)); go_big_quiet_on)))
    refine wpQuiet_nil ?_
    intro wz hw'
    have hbz : Below W1.heap.size W1 wz := by obtain ⟨x, rfl⟩ := hw'; exact x.bel
    have BW := M.hl (M.sl B1.out hbz)
    have HBZ := M.hl hbz
    clear hw' hbz
    have VZ := M.hl (M.keepO V1.out HBZ.out)
    have z0 := M.bk_cell VZ.out 0 _ rfl
    have z2 := M.bk_cell VZ.out 2 _ rfl
    have z3 := M.bk_cell VZ.out 3 _ rfl
    have c1z : wz.cell? ⟨b, off + Q * 4 + 1, none⟩ = some (.slice a1 n1 k1') := (HBZ.out.cell (p := ⟨b, off + Q * 4 + 1, none⟩) (World.block_lt_of_cell? W1 _ c1)).trans c1
    go_wp2
    go_ret2
    exact ⟨⟨_, rfl, .inl ⟨HX.out, rfl⟩⟩, BW.out⟩
  have d4 : decide ((n1 : Int) - (S : Int) < (Mm : Int)) = false := decide_eq_false hlen
  have hSM : S + Mm ≤ n1 := by omega
  have HX : Hid (M.partB ts ⟨(Q : Int), lab, (S : Int), (Mm : Int)⟩ = some ((ss.drop S).take Mm)) := by show _ = _; rw [HPB.out, if_pos ⟨rfl, by omega, by omega, by have := HN1.out; omega⟩]; simp
  go_enter Try.func54, Try.ntmps54
  go_wp2_with fail
  rw [← HW1.out]
  refine M.wp_region_wd (by kernel_rfl) (by kernel_rfl) (fun _ => ?_)
  repeat (first | go_big_quiet_skip | (go_big_quiet_want; go_big_quiet_op; first | go_big_quiet_on | (apply Exists.intro; refine ⟨fun x => ?_, ?_⟩; (with_reducible exact M.Wd.call x (C1.out x.val)); go_big_quiet_on)))
  refine wpQuiet_nil ?_
  intro wz hw'
  have hbz : Below W1.heap.size W1 wz := by obtain ⟨x, rfl⟩ := hw'; exact x.bel
  have BW := M.hl (M.sl B1.out hbz)
  have HBZ := M.hl hbz
  clear hw' hbz
  have VZ := M.hl (M.keepO V1.out HBZ.out)
  have z0 := M.bk_cell VZ.out 0 _ rfl
  have z2 := M.bk_cell VZ.out 2 _ rfl
  have z3 := M.bk_cell VZ.out 3 _ rfl
  have c1z : wz.cell? ⟨b, off + Q * 4 + 1, none⟩ = some (.slice a1 n1 k1') := (HBZ.out.cell (p := ⟨b, off + Q * 4 + 1, none⟩) (World.block_lt_of_cell? W1 _ c1)).trans c1
  go_wp2
  all_goals
    go_ret2
    first
      | exact ⟨⟨_, rfl, .inr ⟨_, _, _, _, HX.out, rfl, HST.out.sub S Mm hSM⟩⟩, BW.out⟩
      | (refine ⟨⟨_, rfl, .inr ⟨_, _, _, _, HX.out, rfl, ?_⟩⟩, BW.out⟩; obtain rfl : Mm = 0 := (by omega); exact ⟨by simp, Nat.le_refl _, Nat.zero_le _, fun h => by omega⟩)
end Go.Proofs.Ytappficbjjkmiaa
