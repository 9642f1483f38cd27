/-
  What the laws' helpers on dumps do: szDump, toDump, eqDump; an argument that is a dump, opened.
-/
import Derived.Test.YtpokcbcffijheabDumpMath
import Derived.Test.YtpokcbcffijheabLinkBox
namespace Go.Proofs.Ytpokcbcffijheab
open Go.ChangeShapes Go.WideShapes Go.Deep Go.RowKit

theorem M.bk9 {W : World} {H : Nat} {v0 v1 v2 v3 v4 v5 v6 v7 v8 : Value} {T : TypeId} (h : W.heap[H]? = some (.cells #[v0, v1, v2, v3, v4, v5, v6, v7, v8] T (0, 0))) : W.cell? ⟨H, 0, none⟩ = some v0 ∧ W.cell? ⟨H, 1, none⟩ = some v1 ∧ W.cell? ⟨H, 2, none⟩ = some v2 ∧ W.cell? ⟨H, 3, none⟩ = some v3 ∧ W.cell? ⟨H, 4, none⟩ = some v4 ∧ W.cell? ⟨H, 5, none⟩ = some v5 ∧ W.cell? ⟨H, 6, none⟩ = some v6 ∧ W.cell? ⟨H, 7, none⟩ = some v7 ∧ W.cell? ⟨H, 8, none⟩ = some v8 :=
  ⟨M.bk_cell h 0 _ rfl, M.bk_cell h 1 _ rfl, M.bk_cell h 2 _ rfl, M.bk_cell h 3 _ rfl, M.bk_cell h 4 _ rfl, M.bk_cell h 5 _ rfl, M.bk_cell h 6 _ rfl, M.bk_cell h 7 _ rfl, M.bk_cell h 8 _ rfl⟩
set_option maxRecDepth 100000 in
set_option maxHeartbeats 1600000 in
theorem szDump_any (w : World) (x1 : Int) (hs : ByteArray) (x2 x3 x4 x5 x6 x7 : Int) (a : Option Addr) (n c : Nat) (left : Int) (hlm : n ≤ 9223372036854775807) (hz : hs.size ≤ maxLen) (h0 : 0 ≤ left) (h1 : left ≤ 1048576) :
    Calls Try.prog 12 #[.agg #[.int .i64 x1, .string hs, .int .i64 x2, .int .i64 x3, .int .i64 x4, .int .i64 x5, .int .i64 x6, .int .i64 x7, .slice a n c], .int .i64 left] w fun e w' => ∃ v : Int, e = .returned (.int .i64 v) ∧ v ≤ left ∧ (0 ≤ v → v + n + hs.size ≤ left) ∧ Below w.heap.size w w' := by
  have hz2 : hs.size ≤ 9223372036854775807 := by unfold maxLen at hz; omega
  have HB : Hid (∀ o, Below w.heap.size w (w.alloc o)) := fun o => (Below.refl _ _).alloc (Nat.le_refl _) _
  clear hz
  by_cases hl : left - hs.size < 0
  · go_enter Try.func12, Try.ntmps12
    go_wp2
    go_ret
    exact ⟨-1, rfl, by omega, fun h => by omega, HB.out _⟩
  have CS : Hid (∀ W, Calls Try.prog 35 #[.slice a n c, .int .i64 (left - hs.size)] W fun e w' => ∃ v : Int, e = .returned (.int .i64 v) ∧ (0 ≤ v → v + n ≤ left - hs.size) ∧ v ≤ left - hs.size ∧ W = w') := fun W => szPartS_any W a n c _ hlm (by omega) (by omega)
  go_enter Try.func12, Try.ntmps12
  go_wp2_with fail
  refine (CS.out _).mono ?_
  rintro e w1 ⟨v, rfl, hv1, hv2, rfl⟩
  by_cases hv : v < 0
  · clear hv1
    go_wp2
    go_ret
    exact ⟨-1, rfl, by omega, fun h => by omega, HB.out _⟩
  · have HV := M.hl (hv1 (by omega))
    clear hv1
    go_wp2
    go_ret
    exact ⟨v, rfl, by omega, fun h => by have := HV.out; omega, HB.out _⟩

set_option maxRecDepth 100000 in
set_option maxHeartbeats 1600000 in
theorem toDump_any (w : World) (x1 : Int) (hs : ByteArray) (x2 x3 x4 x5 x6 x7 : Int) (a : Option Addr) (n c : Nat) (ps : List M.PartD) (h : M.Pts w a n c ps) (hl : n ≤ 1048576) :
    Calls Try.prog 14 #[.agg #[.int .i64 x1, .string hs, .int .i64 x2, .int .i64 x3, .int .i64 x4, .int .i64 x5, .int .i64 x6, .int .i64 x7, .slice a n c]] w fun e w' => ∃ b : Nat, e = .returned (.agg #[.int .i64 x1, .string hs, .int .i64 x2, .int .i64 x3, .int .i64 x4, .int .i64 x5, .int .i64 x6, .int .i64 x7, .slice (some ⟨b, 0, none⟩) n n]) ∧
      M.OwnPt w' w.heap.size (.slice (some ⟨b, 0, none⟩) n n) ps ∧ w.heap.size ≤ b ∧ b < w'.heap.size ∧ Below w.heap.size w w' := by
  have CS : Hid (∀ W, Below w.heap.size w W → w.heap.size + 1 + 1 + 1 = W.heap.size → Calls Try.prog 38 #[.slice a n c] W fun e w' => ∃ b : Nat, e = .returned (.slice (some ⟨b, 0, none⟩) n n) ∧ w.heap.size + 1 + 1 + 1 ≤ b ∧ b < w'.heap.size ∧ M.OwnPt w' (w.heap.size + 1 + 1 + 1) (.slice (some ⟨b, 0, none⟩) n n) ps ∧ Below W.heap.size W w') := fun W hW hs => by
    rw [hs]; exact (toPartS_any W a n c ps (h.below hW) hl).mono (by rintro e w' ⟨b, rfl, h1, h2, h3, h4⟩; exact ⟨b, rfl, h2, h3, h1, h4⟩)
  clear h
  obtain ⟨W3, hW3⟩ : ∃ W3, W3 = ((w.alloc (.cells #[.int .i64 x1, .string hs, .int .i64 x2, .int .i64 x3, .int .i64 x4, .int .i64 x5, .int .i64 x6, .int .i64 x7, .slice a n c] 31)).alloc (.cells #[.int .i64 0, .string ⟨#[]⟩, .int .i64 0, .int .i64 0, .int .i64 0, .int .i64 0, .int .i64 0, .int .i64 0, .slice none 0 0] 36)).alloc (.cells #[.int .i64 x1, .string hs, .int .i64 x2, .int .i64 x3, .int .i64 x4, .int .i64 x5, .int .i64 x6, .int .i64 x7, .slice none 0 0] 36) := ⟨_, rfl⟩
  obtain ⟨t0, t1, t2⟩ := M.thr3 w (.cells #[.int .i64 x1, .string hs, .int .i64 x2, .int .i64 x3, .int .i64 x4, .int .i64 x5, .int .i64 x6, .int .i64 x7, .slice a n c] 31) (.cells #[.int .i64 0, .string ⟨#[]⟩, .int .i64 0, .int .i64 0, .int .i64 0, .int .i64 0, .int .i64 0, .int .i64 0, .slice none 0 0] 36) (.cells #[.int .i64 x1, .string hs, .int .i64 x2, .int .i64 x3, .int .i64 x4, .int .i64 x5, .int .i64 x6, .int .i64 x7, .slice none 0 0] 36)
  rw [← hW3] at t0 t1 t2
  have T0 := M.hl t0
  have T1 := M.hl t1
  have T2 := M.hl t2
  have B3 : Hid (Below w.heap.size w W3) := by rw [hW3]; exact (((Below.refl _ _).alloc (Nat.le_refl _) _).alloc (by simp) _).alloc (by simp; omega) _
  have Z3 : Hid (W3.heap.size = w.heap.size + 1 + 1 + 1) := by rw [hW3]; show _ = _; simp
  clear t0 t1 t2
  go_enter Try.func14, Try.ntmps14
  go_wp2_with fail
  rw [← hW3]
  refine (CS.out _ B3.out (by have := Z3.out; omega)).mono ?_
  rintro e w1 ⟨b, rfl, hbb, hbw, hO, hb⟩
  have O1 := M.hl hO
  have HB := M.hl hbb
  have HBW := M.hl hbw
  have hz := Z3.out
  have B1 : Hid (Below w.heap.size w w1) := B3.out.trans (hb.mono B3.out.size)
  have u1 := (hb.block (w.heap.size + 1) (by rw [hz]; omega)).trans T1.out
  have u2 := (hb.block (w.heap.size + 1 + 1) (by rw [hz]; omega)).trans T2.out
  have r0 := M.bk_cell u1 0 (.int .i64 0) rfl
  have r1 := M.bk_cell u1 1 (.string ⟨#[]⟩) rfl
  have r2 := M.bk_cell u1 2 (.int .i64 0) rfl
  have r3 := M.bk_cell u1 3 (.int .i64 0) rfl
  have r4 := M.bk_cell u1 4 (.int .i64 0) rfl
  have r5 := M.bk_cell u1 5 (.int .i64 0) rfl
  have r6 := M.bk_cell u1 6 (.int .i64 0) rfl
  have r7 := M.bk_cell u1 7 (.int .i64 0) rfl
  have r8 := M.bk_cell u1 8 (.slice none 0 0) rfl
  have s0 := M.bk_cell u2 0 (.int .i64 x1) rfl
  have s1 := M.bk_cell u2 1 (.string hs) rfl
  have s2 := M.bk_cell u2 2 (.int .i64 x2) rfl
  have s3 := M.bk_cell u2 3 (.int .i64 x3) rfl
  have s4 := M.bk_cell u2 4 (.int .i64 x4) rfl
  have s5 := M.bk_cell u2 5 (.int .i64 x5) rfl
  have s6 := M.bk_cell u2 6 (.int .i64 x6) rfl
  have s7 := M.bk_cell u2 7 (.int .i64 x7) rfl
  have s8 := M.bk_cell u2 8 (.slice none 0 0) rfl
  have fr := M.bk_free u1
  have ft := M.bk_free u2
  clear hO hb hW3 hbb hbw u1 u2 hz
  go_wp2
  refine bodyPost_ret (v := .agg #[.int .i64 x1, .string hs, .int .i64 x2, .int .i64 x3, .int .i64 x4, .int .i64 x5, .int .i64 x6, .int .i64 x7, .slice (some ⟨b, 0, none⟩) n n]) (by simp [results, Try.results14, go_sem, r0, r1, r2, r3, r4, r5, r6, r7, r8]) rfl ⟨_, rfl, ?_, by have := HB.out; omega, by have := HBW.out; simpa using this, ?_⟩
  · have key : ∀ {W : World} (H j : Nat) (u : Value), H < w.heap.size + 1 + 1 + 1 → M.OwnPt W (w.heap.size + 1 + 1 + 1) (.slice (some ⟨b, 0, none⟩) n n) ps → M.OwnPt (W.setCell ⟨H, j, none⟩ u) (w.heap.size + 1 + 1 + 1) (.slice (some ⟨b, 0, none⟩) n n) ps := fun H j u hH hO => hO.setAt (by intro g hg; obtain rfl := Option.some.inj hg; show b ≠ H; have := HB.out; omega) j u
    refine M.OwnPt.down (b := w.heap.size + 1 + 1 + 1) ?_ (by omega)
    iterate 10 refine key _ _ _ (by omega) ?_
    exact O1.out
  · have key : ∀ {W : World} (H j : Nat) (u : Value), w.heap.size ≤ H → Below w.heap.size w W → Below w.heap.size w (W.setCell ⟨H, j, none⟩ u) := fun H j u hH hB => hB.setCell hH u
    iterate 10 refine key _ _ _ (by omega) ?_
    exact B1.out

set_option maxRecDepth 100000 in
set_option maxHeartbeats 1600000 in
theorem eqDump_same (w : World) (x1 : Int) (hs : ByteArray) (x2 x3 x4 x5 x6 x7 : Int) (a a' : Option Addr) (n c n' c' : Nat) (ps : List M.PartD) (h : M.Pts w a n c ps) (h' : M.Pts w a' n' c' ps) :
    Calls Try.prog 16 #[.agg #[.int .i64 x1, .string hs, .int .i64 x2, .int .i64 x3, .int .i64 x4, .int .i64 x5, .int .i64 x6, .int .i64 x7, .slice a n c], .agg #[.int .i64 x1, .string hs, .int .i64 x2, .int .i64 x3, .int .i64 x4, .int .i64 x5, .int .i64 x6, .int .i64 x7, .slice a' n' c']] w fun e w' => e = .returned (.bool true) ∧ Below w.heap.size w w' := by
  have HB : Hid (∀ o1 o2, Below w.heap.size w ((w.alloc o1).alloc o2)) := fun o1 o2 => ((Below.refl _ _).alloc (Nat.le_refl _) _).alloc (by simp) _
  have CS : Hid (∀ o1 o2, Calls Try.prog 43 #[.slice a n c, .slice a' n' c'] ((w.alloc o1).alloc o2) fun e w' => e = .returned (.bool true) ∧ Below ((w.alloc o1).alloc o2).heap.size ((w.alloc o1).alloc o2) w') := fun o1 o2 => eqPartS_same _ a a' n c n' c' ps (h.below (HB.out o1 o2)) (h'.below (HB.out o1 o2))
  have ds : (hs.toList != hs.toList) = false := by simp
  clear h h'
  go_enter Try.func16, Try.ntmps16
  go_wp2_with fail
  refine (CS.out _ _).mono ?_
  rintro e w1 ⟨rfl, hb1⟩
  have B1 : Hid (Below w.heap.size w w1) := (HB.out _ _).trans (hb1.mono (HB.out _ _).size)
  clear hb1
  go_wp2
  go_ret
  exact ⟨rfl, B1.out⟩

theorem M.open_dump {H : Type} {enc : TypeId × Value → H} {P : Program} {w : World} {base : Nat} {spare : Nat → Bool} {held : Bool} {t es : TypeId} {g0 g1 g2 g3 g4 g5 g6 g7 g8 f0 f1 f2 f3 : Field} {fuel : Nat} {cs : List Value} {x : DataW H × List MemPlace}
    (ht : P.underlying t = some (.struct #[g0, g1, g2, g3, g4, g5, g6, g7, g8])) (ct : P.cellsOf t = 9)
    (po : g0.offset = 0 ∧ g1.offset = 1 ∧ g2.offset = 2 ∧ g3.offset = 3 ∧ g4.offset = 4 ∧ g5.offset = 5 ∧ g6.offset = 6 ∧ g7.offset = 7 ∧ g8.offset = 8)
    (pk : P.cellsOf g0.type = 1 ∧ P.cellsOf g1.type = 1 ∧ P.cellsOf g2.type = 1 ∧ P.cellsOf g3.type = 1 ∧ P.cellsOf g4.type = 1 ∧ P.cellsOf g5.type = 1 ∧ P.cellsOf g6.type = 1 ∧ P.cellsOf g7.type = 1 ∧ P.cellsOf g8.type = 1)
    (h0 : P.underlying g0.type = some (.int .i64)) (h1 : P.underlying g1.type = some .string) (h2 : P.underlying g2.type = some (.int .i64)) (h3 : P.underlying g3.type = some (.int .i64)) (h4 : P.underlying g4.type = some (.int .i64)) (h5 : P.underlying g5.type = some (.int .i64)) (h6 : P.underlying g6.type = some (.int .i64)) (h7 : P.underlying g7.type = some (.int .i64))
    (h8 : P.underlying g8.type = some (.slice es)) (hes : P.underlying es = some (.struct #[f0, f1, f2, f3])) (ces : P.cellsOf es = 4)
    (fo : f0.offset = 0 ∧ f1.offset = 1 ∧ f2.offset = 2 ∧ f3.offset = 3) (fk : P.cellsOf f0.type = 1 ∧ P.cellsOf f1.type = 1 ∧ P.cellsOf f2.type = 1 ∧ P.cellsOf f3.type = 1)
    (u0 : P.underlying f0.type = some (.int .i64)) (u1 : P.underlying f1.type = some (.int .i64)) (u2 : P.underlying f2.type = some (.int .i64)) (u3 : P.underlying f3.type = some (.int .i64))
    (h : DataW.trod enc P w base spare held fuel t cs = some x) :
    ∃ (x1 : Int) (hs : ByteArray) (x2 x3 x4 x5 x6 x7 : Int) (a : Option Addr) (n c : Nat) (ps : List M.PartD), cs = [.int .i64 x1, .string hs, .int .i64 x2, .int .i64 x3, .int .i64 x4, .int .i64 x5, .int .i64 x6, .int .i64 x7, .slice a n c] ∧ M.Pts w a n c ps ∧ M.dok ⟨x1, hs, x2, x3, x4, x5, x6, x7, ps⟩ := by
  obtain ⟨xs, n, hn, hxy, hlen, hxl, hx⟩ := DataW.trod_struct ht h
  obtain ⟨p0, p1, p2, p3, p4, p5, p6, p7, p8⟩ := po
  obtain ⟨k0, k1, k2, k3, k4, k5, k6, k7, k8⟩ := pk
  obtain ⟨o0, o1, o2, o3⟩ := fo
  obtain ⟨c0, c1, c2, c3⟩ := fk
  rw [ct] at hlen
  match xs, hxl, cs, hlen with
  | [y0, y1, y2, y3, y4, y5, y6, y7, y8], _, [v0, v1, v2, v3, v4, v5, v6, v7, v8], _ =>
    have r0 := hx 0 g0 rfl
    have r1 := hx 1 g1 rfl
    have r2 := hx 2 g2 rfl
    have r3 := hx 3 g3 rfl
    have r4 := hx 4 g4 rfl
    have r5 := hx 5 g5 rfl
    have r6 := hx 6 g6 rfl
    have r7 := hx 7 g7 rfl
    have r8 := hx 8 g8 rfl
    simp [p0, p1, p2, p3, p4, p5, p6, p7, p8, k0, k1, k2, k3, k4, k5, k6, k7, k8] at r0 r1 r2 r3 r4 r5 r6 r7 r8
    obtain ⟨x0, e0, _, hx0⟩ := DataW.trod_int h0 r0
    obtain ⟨hs, e1, _, hhs⟩ := DataW.trod_string h1 r1
    obtain ⟨x2, e2, _, hx2⟩ := DataW.trod_int h2 r2
    obtain ⟨x3, e3, _, hx3⟩ := DataW.trod_int h3 r3
    obtain ⟨x4, e4, _, hx4⟩ := DataW.trod_int h4 r4
    obtain ⟨x5, e5, _, hx5⟩ := DataW.trod_int h5 r5
    obtain ⟨x6, e6, _, hx6⟩ := DataW.trod_int h6 r6
    obtain ⟨x7, e7, _, hx7⟩ := DataW.trod_int h7 r7
    obtain ⟨a, n1, c, ps, e8, hps, hok⟩ := M.open_parts h8 hes ces o0 o1 o2 o3 c0 c1 c2 c3 u0 u1 u2 u3 r8
    obtain rfl := List.singleton_inj.1 e0
    obtain rfl := List.singleton_inj.1 e1
    obtain rfl := List.singleton_inj.1 e2
    obtain rfl := List.singleton_inj.1 e3
    obtain rfl := List.singleton_inj.1 e4
    obtain rfl := List.singleton_inj.1 e5
    obtain rfl := List.singleton_inj.1 e6
    obtain rfl := List.singleton_inj.1 e7
    obtain rfl := List.singleton_inj.1 e8
    exact ⟨x0, hs, x2, x3, x4, x5, x6, x7, a, n1, c, ps, rfl, hps, M.wf_i64 hx0, hhs, M.wf_i64 hx2, M.wf_i64 hx3, M.wf_i64 hx4, M.wf_i64 hx5, M.wf_i64 hx6, M.wf_i64 hx7, hok⟩
end Go.Proofs.Ytpokcbcffijheab
