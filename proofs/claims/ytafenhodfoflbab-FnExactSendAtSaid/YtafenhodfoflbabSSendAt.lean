/-
  What SendAt of the specification does.
-/
import Derived.Test.YtafenhodfoflbabAtMath
import Derived.Test.YtafenhodfoflbabSSendR
import Derived.Test.YtafenhodfoflbabSTime
import Derived.Test.YtafenhodfoflbabSL06P
import Derived.Deep.RegionLaw
namespace Go.Proofs.Ytafenhodfoflbab
open Go.RowKit

theorem Try.infoPs : (Try.prog.info? 53).map (fun i => (i.zero, i.size, i.bytes)) = some (some (.agg #[.int .i64 0, .bool false, .string ⟨#[]⟩, .int .i64 0]), 4, 40) := by kernel_rfl
theorem M.ownP_alloc {w : World} {base i : Nat} {v : Value} {ps : List M.PktD} (hac : ps.length = i) (h : M.OwnP w base v ps) (o : Obj) : World.ownsRow (w.alloc o) base 53 4 v i (M.cellsP ps) := by
  subst hac
  exact World.ownsRow.alloc h o
theorem M.OwnS.setAt' {w : World} {base : Nat} {v : Value} {ss : List ByteArray} (h : M.OwnS w base v ss) {H : Nat} (hH : ∀ g, v.ownBlock = some g → g ≠ H) (j : Nat) (u : Value) : M.OwnS (w.setCell ⟨H, j, none⟩ u) base v ss := by
  obtain ⟨hl, h0 | ⟨g, cap, cur, hv, hg, hh, hr⟩⟩ := h
  · exact ⟨hl, .inl h0⟩
  · have hne : H ≠ g := fun e => hH g (by rw [hv]; rfl) e.symm
    exact ⟨hl, .inr ⟨g, cap, cur, hv, hg, by rw [M.setfr hne]; exact hh, hr⟩⟩
theorem M.ownP_more {w : World} {base i : Nat} {v : Value} {ps : List M.PktD} {p : M.PktD} (hac : ps.length = i) (h : w.ownsRow base 53 4 v (i + 1) (M.cellsP ps ++ M.pcells p)) : M.OwnP w base v (ps ++ [p]) := by
  subst hac
  exact M.OwnP.more h
theorem M.OwnP.len9 {w : World} {base n : Nat} {v : Value} {ps : List M.PktD} (h : M.OwnP w base v ps) (hn : ps.length = n) : ∃ a c, v = .slice a n c := by
  subst hn
  exact h.len
theorem M.stepOwn {P : Program} {w : World} {ops : Array Oper} {o : Oper} {a : Act} {K : Act → World → Prop} {Q : Exit → Act → World → Prop} {E : Prop} (hgd : o.guard = none) (s x : Operand) (t : TypeId)
    (ho : o.op = .call { callee := .builtin .append, args := #[s, x], argTypes := #[t, t] })
    (base : Nat) (e : TypeId) (i : TypeInfo) (z : Value) (size bytes : Nat) (ht : P.underlying t = some (.slice e)) (hi : P.info? e = some i) (hz : i.zero = some z)
    (hsize : i.size = size) (hby : i.bytes = bytes) (hzs : z.cells.size = size) (hsz : 0 < size)
    (v : Value) (n : Nat) (xs : List Value) (hs : a.eval s = v) (hown : w.ownsRow base e size v n xs)
    (ad : Addr) (m c : Nat) (news : List Value) (hx : a.eval x = .slice (some ad) m c) (hl : news.length = m * size) (hnews : ∀ j u, news[j]? = some u → w.cell? (ad.add j) = some u) (h1 : ∀ u ∈ news, u.oneCell' = true)
    (h63 : n + m ≤ maxLen) (hbytes : (n + m) * bytes ≤ 140737488355328) (hbase : base ≤ w.heap.size)
    (h : ∀ v' w', w'.ownsRow base e size v' (n + m) (xs ++ news) → w.grownBy w' v.ownBlock → K (a.put o.dst v') w') :
    if Region.wanted o (yielded ops a.tmps) = true then Oper.wp P o a w K Q else E := by
  have hw : Region.wanted o (yielded ops a.tmps) = true := by simp [Region.wanted, hgd]
  rw [if_pos hw]
  exact wp_append_own w s x t ho base e i z size bytes ht hi hz hsize hby hzs hsz v n xs hs hown ad m c news hx hl hnews h1 h63 hbytes hbase fun v' w' h2 h3 _ => h v' w' h2 h3
theorem M.stepCall {P : Program} {w : World} {ops : Array Oper} {o : Oper} {a : Act} {K : Act → World → Prop} {Q : Exit → Act → World → Prop} {E : Prop} (hgd : o.guard = none) (f : FuncId) (s1 s2 : Operand) (t1 t2 : TypeId)
    (ho : o.op = .call { callee := .value (.func f), args := #[s1, s2], argTypes := #[t1, t2] }) (v1 v2 : Value) (h1 : a.eval s1 = v1) (h2 : a.eval s2 = v2) (v : Value) (R : World → Prop)
    (hC : Calls P f #[v1, v2] w fun e w' => e = .returned v ∧ R w') (hcf : (callFunc f #[v1, v2]).run P w = .ok (.enter f #[v1, v2]) w) (h : ∀ w', R w' → K (a.put o.dst v) w') :
    if Region.wanted o (yielded ops a.tmps) = true then Oper.wp P o a w K Q else E := by
  have hw : Region.wanted o (yielded ops a.tmps) = true := by simp [Region.wanted, hgd]
  rw [if_pos hw]
  have hr : (execOp a.eval o).run P w = .ok (.enter f #[v1, v2]) w := by
    have h0 : a.eval (.func f) = .func (.func f) #[] #[] := rfl
    unfold execOp
    simp [ho, resolve, invoke, Deferred.ofValue, h0, h1, h2, hcf]
  unfold Oper.wp
  rw [hr, Oper.upon_enter]
  refine hC.mono ?_
  rintro e w' ⟨rfl, hR⟩
  exact h w' hR
theorem M.app1 {w4 : World} {base i : Nat} {ap : Option Addr} {cp : Nat} {ps : List M.PktD} (p : M.PktD) (hac : ps.length = i) (h : M.OwnP w4 base (.slice ap i cp) ps) (hi4 : i ≤ 4) (hb : base ≤ w4.heap.size) :
    ∃ a9 c9 w9, (Builtin.append_ #[33, 33] 33 #[.slice ap i cp, .slice (some ⟨w4.heap.size, 0, none⟩) 1 1]).run Try.prog (w4.alloc (.cells #[.int .i64 p.q, .bool p.l, .string p.s, .int .i64 p.c] 53)) = .ok (.slice a9 (i + 1) c9) w9 ∧
      M.OwnP w9 base (.slice a9 (i + 1) c9) (ps ++ [p]) ∧ (w4.alloc (.cells #[.int .i64 p.q, .bool p.l, .string p.s, .int .i64 p.c] 53)).grownBy w9 (Value.slice ap i cp).ownBlock := by
  obtain ⟨i0, hi, hz0, hz1, hz2⟩ := info_parts Try.infoPs
  obtain ⟨v', w9, hr, h2, h3, -⟩ := run_append_own (P := Try.prog) (w4.alloc (.cells #[.int .i64 p.q, .bool p.l, .string p.s, .int .i64 p.c] 53)) base 33 33 53 i0 (.agg #[.int .i64 0, .bool false, .string ⟨#[]⟩, .int .i64 0]) 4 40 Try.underlying33 hi hz0 hz1 hz2 rfl (by decide) _ i (M.cellsP ps) (M.ownP_alloc hac h _) ⟨w4.heap.size, 0, none⟩ 1 1 (M.pcells p) rfl (M.four_n _ p _) (M.oneCell4 p) (by unfold maxLen; omega) (by omega) (by simp; omega)
  have hO : M.OwnP w9 base v' (ps ++ [p]) := by
    subst hac
    exact M.OwnP.more h2
  obtain ⟨a9, c9, rfl⟩ := hO.len
  rw [List.length_append, hac] at hr hO
  exact ⟨a9, c9, w9, hr, hO, h3⟩
set_option maxHeartbeats 400000 in
theorem sMin_at (x y : Int) (w : World) : Calls Try.prog 43 #[.int .i64 x, .int .i64 y] w fun e w' => e = .returned (.int .i64 (min x y)) ∧ w = w' := by
  by_cases h : x < y
  · rw [show min x y = x by omega]
    have d : decide (x < y) = true := decide_eq_true h
    go_enter Try.func43, Try.ntmps43
    go_wp2
    go_ret
    exact ⟨rfl, rfl⟩
  · rw [show min x y = y by omega]
    have d : decide (x < y) = false := decide_eq_false h
    go_enter Try.func43, Try.ntmps43
    go_wp2
    go_ret
    exact ⟨rfl, rfl⟩

set_option maxRecDepth 100000 in
set_option maxHeartbeats 6400000 in
theorem sSendAt_any (w : World) (ad : Addr) (n c : Nat) (ss : List ByteArray) (x d t now : Int) (h : M.Strs w (some ad) n c ss) (h64 : ∀ s ∈ ss, (s.size : Int) ≤ 1048576) (hl : n ≤ 1048576) :
    Calls Try.prog 14 #[.agg #[.slice (some ad) n c, .int .i64 x, .int .i64 d, .int .i64 t], .int .i64 now] w fun e w' => M.AtVal ss x d t now w.heap.size e w' ∧ Below w.heap.size w w' := by
  have HB : Hid (∀ o1 o2, Below w.heap.size w ((w.alloc o1).alloc o2)) := fun o1 o2 => ((Below.refl _ _).alloc (Nat.le_refl _) _).alloc (by simp) _
  have CR : Hid (∀ W, Below w.heap.size w W → Calls Try.prog 10 #[.agg #[.slice (some ad) n c, .int .i64 x, .int .i64 d, .int .i64 t]] W fun e w' => e = .returned (.bool (M.sndR ss x d t)) ∧ Below W.heap.size W w') := fun W hW => sSendR_any W (some ad) n c ss x d t (h.below hW) (fun s hs => by have := h64 s hs; unfold maxLen; omega)
  have CC : Hid (∀ W, Below w.heap.size w W → Calls Try.prog 42 #[.agg #[.slice (some ad) n c, .int .i64 x, .int .i64 d, .int .i64 t]] W fun e w' => ∃ v, e = .returned (.agg #[v, .int .i64 x, .int .i64 d, .int .i64 t]) ∧ M.OwnS w' W.heap.size v ss ∧ Below W.heap.size W w') := fun W hW => sSCopy_any W ad n c ss x d t (h.below hW) hl
  have CT : Hid (∀ W, Calls Try.prog 41 #[.int .i64 now] W fun e w' => e = .returned (.bool (decide (0 ≤ now ∧ now ≤ 1000000000))) ∧ W = w') := fun W => sTime_any now W
  have HS := M.hl h
  have HN : Hid (n = ss.length) := h.1
  clear h h64
  go_enter Try.func14, Try.ntmps14
  go_wp2_with fail
  refine (CR.out _ (HB.out _ _)).mono ?_
  rintro e w1 ⟨rfl, hb⟩
  have B1 := M.hl (M.sl (HB.out _ _) hb)
  obtain ⟨t0, t1⟩ := M.thr2 w (.cells #[.slice (some ad) n c, .int .i64 x, .int .i64 d, .int .i64 t] 27) (.cells #[.slice none 0 0, .int .i64 0, .int .i64 0, .int .i64 0, .slice none 0 0, .int .i64 0, .slice none 0 0, .int .i64 0, .int .i64 0] 35)
  have U0 := M.hl ((hb.block w.heap.size (by simp; omega)).trans t0)
  have U1 := M.hl ((hb.block (w.heap.size + 1) (by simp)).trans t1)
  have hsz : w.heap.size + 1 < w1.heap.size := by have := hb.size; simp at this; omega
  clear hb t0 t1
  have r0 := M.bk_cell U1.out 0 _ rfl
  have r1 := M.bk_cell U1.out 1 _ rfl
  have r2 := M.bk_cell U1.out 2 _ rfl
  have r3 := M.bk_cell U1.out 3 _ rfl
  have r4 := M.bk_cell U1.out 4 _ rfl
  have r5 := M.bk_cell U1.out 5 _ rfl
  have r6 := M.bk_cell U1.out 6 _ rfl
  have r7 := M.bk_cell U1.out 7 _ rfl
  have r8 := M.bk_cell U1.out 8 _ rfl
  have fr := M.bk_free U1.out
  have BAD : Hid (¬ M.atR ss x d t now → ∃ (v pv : Value) (sv : List ByteArray) (y0 y1 y2 : Int) (ps : List M.PktD) (code : Int), Ending.returned (.agg #[.slice none 0 0, .int .i64 0, .int .i64 0, .int .i64 0, .slice none 0 0, .int .i64 0, .slice none 0 0, .int .i64 0, .int .i64 1]) = .returned (.agg #[v, .int .i64 y0, .int .i64 y1, .int .i64 y2, .slice none 0 0, .int .i64 0, pv, .int .i64 0, .int .i64 code]) ∧ M.AtOut ss x d t now sv y0 y1 y2 ps code ∧ (∀ W, M.OwnS W w.heap.size v sv ∧ M.OwnP W w.heap.size pv ps)) := fun hn => ⟨_, _, [], 0, 0, 0, [], 1, rfl, .inl ⟨hn, rfl, rfl, rfl, rfl, rfl, rfl⟩, fun W => ⟨M.OwnS.nil _ _, M.OwnP.nil _ _⟩⟩
  cases hr : M.sndR ss x d t
  · have HNO : Hid (¬ M.atR ss x d t now) := fun h => by have := h.1; rw [hr] at this; cases this
    clear hr
    go_wp2
    refine bodyPost_ret (v := .agg #[.slice none 0 0, .int .i64 0, .int .i64 0, .int .i64 0, .slice none 0 0, .int .i64 0, .slice none 0 0, .int .i64 0, .int .i64 1]) (by simp [results, Try.results14, go_sem, r0, r1, r2, r3, r4, r5, r6, r7, r8]) rfl ?_
    obtain ⟨v, pv, sv, y0, y1, y2, ps, code, he, ho, hO⟩ := BAD.out HNO.out
    exact ⟨⟨v, pv, sv, y0, y1, y2, ps, code, he, ho, (hO _).1, (hO _).2⟩, ((((((((B1.out.setCell (by simp) _).setCell (by simp) _).setCell (by simp) _).setCell (by simp) _).setCell (by simp) _).setCell (by simp) _).setCell (by simp) _).setCell (by simp) _).setCell (by simp) _⟩
  have HR := M.hl hr
  clear hr
  go_wp2_with fail
  refine (CT.out _).mono ?_
  rintro e w1' ⟨rfl, rfl⟩
  by_cases ht : 0 ≤ now ∧ now ≤ 1000000000
  case neg =>
    have HNO : Hid (¬ M.atR ss x d t now) := fun h => ht h.2
    rw [decide_eq_false ht]
    clear ht
    go_wp2
    refine bodyPost_ret (v := .agg #[.slice none 0 0, .int .i64 0, .int .i64 0, .int .i64 0, .slice none 0 0, .int .i64 0, .slice none 0 0, .int .i64 0, .int .i64 1]) (by simp [results, Try.results14, go_sem, r0, r1, r2, r3, r4, r5, r6, r7, r8]) rfl ?_
    obtain ⟨v, pv, sv, y0, y1, y2, ps, code, he, ho, hO⟩ := BAD.out HNO.out
    exact ⟨⟨v, pv, sv, y0, y1, y2, ps, code, he, ho, (hO _).1, (hO _).2⟩, ((((((((B1.out.setCell (by simp) _).setCell (by simp) _).setCell (by simp) _).setCell (by simp) _).setCell (by simp) _).setCell (by simp) _).setCell (by simp) _).setCell (by simp) _).setCell (by simp) _⟩
  rw [decide_eq_true ht]
  have HAT : Hid (M.atR ss x d t now) := ⟨HR.out, ht⟩
  have hsn := M.snd_parts HR.out
  obtain ⟨-, hfi, ⟨hx0, hx1⟩, ⟨hd0, hd1⟩, ht1, ht2⟩ := hsn
  have HFI := M.hl hfi
  have HX1 := M.hl hx1
  have hn3 : n ≤ 300 := by have := (M.fits_iff.1 hfi).1; have := HN.out; omega
  obtain ⟨X, rfl⟩ := Int.eq_ofNat_of_zero_le hx0
  have hX3 : X ≤ 300 := by have := HX1.out; have := HN.out; omega
  have k0 := M.bk_cell U0.out 0 (.slice (some ad) n c) rfl
  have k1 := M.bk_cell U0.out 1 (.int .i64 (X : Int)) rfl
  have k2 := M.bk_cell U0.out 2 (.int .i64 d) rfl
  have k3 := M.bk_cell U0.out 3 (.int .i64 t) rfl
  clear hfi hx1 BAD CT
  go_wp2_with fail
  refine (CC.out _ B1.out).mono ?_
  rintro e w2 ⟨v, rfl, hO, hb⟩
  obtain ⟨a', cap', rfl⟩ := hO.len
  have O2 := M.hl hO
  have B2 := M.hl (M.sl B1.out hb)
  have V0 := M.hl ((hb.block w.heap.size (by omega)).trans U0.out)
  have V1 := M.hl ((hb.block (w.heap.size + 1) (by omega)).trans U1.out)
  have hsz2 : w.heap.size + 1 < w2.heap.size := by have := hb.size; omega
  have hw12 := M.hl hb.size
  have AL : Hid (∀ o b, b < w2.heap.size → (w2.alloc o).heap[b]? = w2.heap[b]?) := fun o b hb' => heap_alloc_old _ _ hb'
  have BA : Hid (∀ o, Below w.heap.size w (w2.alloc o)) := fun o => B2.out.alloc B2.out.size _
  have g0 : ∀ o, (w2.alloc o).cell? ⟨w.heap.size, 0, none⟩ = some (.slice (some ad) n c) := fun o => M.bk_cell ((AL.out o _ (by omega)).trans V0.out) 0 _ rfl
  have g1 : ∀ o, (w2.alloc o).cell? ⟨w.heap.size, 1, none⟩ = some (.int .i64 (X : Int)) := fun o => M.bk_cell ((AL.out o _ (by omega)).trans V0.out) 1 _ rfl
  have g2 : ∀ o, (w2.alloc o).cell? ⟨w.heap.size, 2, none⟩ = some (.int .i64 d) := fun o => M.bk_cell ((AL.out o _ (by omega)).trans V0.out) 2 _ rfl
  have g3 : ∀ o, (w2.alloc o).cell? ⟨w.heap.size, 3, none⟩ = some (.int .i64 t) := fun o => M.bk_cell ((AL.out o _ (by omega)).trans V0.out) 3 _ rfl
  have p0 : w2.cell? ⟨w.heap.size + 1, 0, none⟩ = some (.slice none 0 0) := M.bk_cell V1.out 0 _ rfl
  have p1 : w2.cell? ⟨w.heap.size + 1, 1, none⟩ = some (.int .i64 0) := M.bk_cell V1.out 1 _ rfl
  have p2 : w2.cell? ⟨w.heap.size + 1, 2, none⟩ = some (.int .i64 0) := M.bk_cell V1.out 2 _ rfl
  have p3 : w2.cell? ⟨w.heap.size + 1, 3, none⟩ = some (.int .i64 0) := M.bk_cell V1.out 3 _ rfl
  have p4 : w2.cell? ⟨w.heap.size + 1, 4, none⟩ = some (.slice none 0 0) := M.bk_cell V1.out 4 _ rfl
  have p5 : w2.cell? ⟨w.heap.size + 1, 5, none⟩ = some (.int .i64 0) := M.bk_cell V1.out 5 _ rfl
  have p6 : w2.cell? ⟨w.heap.size + 1, 6, none⟩ = some (.slice none 0 0) := M.bk_cell V1.out 6 _ rfl
  have p7 : w2.cell? ⟨w.heap.size + 1, 7, none⟩ = some (.int .i64 0) := M.bk_cell V1.out 7 _ rfl
  have p8 : w2.cell? ⟨w.heap.size + 1, 8, none⟩ = some (.int .i64 0) := M.bk_cell V1.out 8 _ rfl
  have fp : ∀ j, w2.frozen? ⟨w.heap.size + 1, j, none⟩ = false := fun j => M.bk_free V1.out j
  have hne2 : ¬ (w.heap.size + 1 = w2.heap.size) := by omega
  have OA : Hid (∀ o, M.OwnS (w2.alloc o) w1.heap.size (.slice a' ss.length cap') ss) := fun o => O2.out.below ((Below.refl _ _).alloc (Nat.le_refl _) _)
  clear hO hb k0 k1 k2 k3 r0 r1 r2 r3 r4 r5 r6 r7 r8 fr
  by_cases hidle : (X : Int) = (n : Int) ∨ now < d
  · have HID : Hid ((X : Int) = (ss.length : Int) ∨ now < d) := by show _ ∨ _; rw [← HN.out]; exact hidle
    have FIN : Hid (∀ W, M.OwnS W w1.heap.size (.slice a' ss.length cap') ss → M.AtVal ss (X : Int) d t now w.heap.size (.returned (.agg #[.slice a' ss.length cap', .int .i64 (X : Int), .int .i64 d, .int .i64 t, .slice none 0 0, .int .i64 0, .slice none 0 0, .int .i64 0, .int .i64 0])) W) := fun W hW => ⟨_, _, ss, X, d, t, [], 0, rfl, .inr (.inl ⟨HAT.out, HID.out, rfl, rfl, rfl, rfl, rfl, rfl⟩), hW.lower (by omega), M.OwnP.nil _ _⟩
    by_cases hxe : (X : Int) = (n : Int)
    · have d1 : ((X : Int) == (n : Int)) = true := by rw [beq_iff_eq]; exact hxe
      clear hxe hidle
      have RR := M.nine V1.out (.slice a' ss.length cap') (.int .i64 (X : Int)) (.int .i64 d) (.int .i64 t) (.slice none 0 0) (.int .i64 0) (.slice none 0 0) (.int .i64 0) (.int .i64 0)
      have hs9 : (((((((((w2.setCell ⟨w.heap.size + 1, 0, none⟩ (.slice a' ss.length cap')).setCell ⟨w.heap.size + 1, 1, none⟩ (.int .i64 (X : Int))).setCell ⟨w.heap.size + 1, 2, none⟩ (.int .i64 d)).setCell ⟨w.heap.size + 1, 3, none⟩ (.int .i64 t)).setCell ⟨w.heap.size + 1, 4, none⟩ (.slice none 0 0)).setCell ⟨w.heap.size + 1, 5, none⟩ (.int .i64 0)).setCell ⟨w.heap.size + 1, 6, none⟩ (.slice none 0 0)).setCell ⟨w.heap.size + 1, 7, none⟩ (.int .i64 0)).setCell ⟨w.heap.size + 1, 8, none⟩ (.int .i64 0)).heap.size = w2.heap.size := by simp [World.setCell]
      have rr0 : ∀ o, ((((((((((w2.setCell ⟨w.heap.size + 1, 0, none⟩ (.slice a' ss.length cap')).setCell ⟨w.heap.size + 1, 1, none⟩ (.int .i64 (X : Int))).setCell ⟨w.heap.size + 1, 2, none⟩ (.int .i64 d)).setCell ⟨w.heap.size + 1, 3, none⟩ (.int .i64 t)).setCell ⟨w.heap.size + 1, 4, none⟩ (.slice none 0 0)).setCell ⟨w.heap.size + 1, 5, none⟩ (.int .i64 0)).setCell ⟨w.heap.size + 1, 6, none⟩ (.slice none 0 0)).setCell ⟨w.heap.size + 1, 7, none⟩ (.int .i64 0)).setCell ⟨w.heap.size + 1, 8, none⟩ (.int .i64 0)).alloc o).cell? ⟨w.heap.size + 1, 0, none⟩ = some (.slice a' ss.length cap') := fun o => M.bk_cell ((heap_alloc_old _ _ (by rw [hs9]; omega)).trans RR) 0 _ rfl
      have rr1 : ∀ o, ((((((((((w2.setCell ⟨w.heap.size + 1, 0, none⟩ (.slice a' ss.length cap')).setCell ⟨w.heap.size + 1, 1, none⟩ (.int .i64 (X : Int))).setCell ⟨w.heap.size + 1, 2, none⟩ (.int .i64 d)).setCell ⟨w.heap.size + 1, 3, none⟩ (.int .i64 t)).setCell ⟨w.heap.size + 1, 4, none⟩ (.slice none 0 0)).setCell ⟨w.heap.size + 1, 5, none⟩ (.int .i64 0)).setCell ⟨w.heap.size + 1, 6, none⟩ (.slice none 0 0)).setCell ⟨w.heap.size + 1, 7, none⟩ (.int .i64 0)).setCell ⟨w.heap.size + 1, 8, none⟩ (.int .i64 0)).alloc o).cell? ⟨w.heap.size + 1, 1, none⟩ = some (.int .i64 (X : Int)) := fun o => M.bk_cell ((heap_alloc_old _ _ (by rw [hs9]; omega)).trans RR) 1 _ rfl
      have rr2 : ∀ o, ((((((((((w2.setCell ⟨w.heap.size + 1, 0, none⟩ (.slice a' ss.length cap')).setCell ⟨w.heap.size + 1, 1, none⟩ (.int .i64 (X : Int))).setCell ⟨w.heap.size + 1, 2, none⟩ (.int .i64 d)).setCell ⟨w.heap.size + 1, 3, none⟩ (.int .i64 t)).setCell ⟨w.heap.size + 1, 4, none⟩ (.slice none 0 0)).setCell ⟨w.heap.size + 1, 5, none⟩ (.int .i64 0)).setCell ⟨w.heap.size + 1, 6, none⟩ (.slice none 0 0)).setCell ⟨w.heap.size + 1, 7, none⟩ (.int .i64 0)).setCell ⟨w.heap.size + 1, 8, none⟩ (.int .i64 0)).alloc o).cell? ⟨w.heap.size + 1, 2, none⟩ = some (.int .i64 d) := fun o => M.bk_cell ((heap_alloc_old _ _ (by rw [hs9]; omega)).trans RR) 2 _ rfl
      have rr3 : ∀ o, ((((((((((w2.setCell ⟨w.heap.size + 1, 0, none⟩ (.slice a' ss.length cap')).setCell ⟨w.heap.size + 1, 1, none⟩ (.int .i64 (X : Int))).setCell ⟨w.heap.size + 1, 2, none⟩ (.int .i64 d)).setCell ⟨w.heap.size + 1, 3, none⟩ (.int .i64 t)).setCell ⟨w.heap.size + 1, 4, none⟩ (.slice none 0 0)).setCell ⟨w.heap.size + 1, 5, none⟩ (.int .i64 0)).setCell ⟨w.heap.size + 1, 6, none⟩ (.slice none 0 0)).setCell ⟨w.heap.size + 1, 7, none⟩ (.int .i64 0)).setCell ⟨w.heap.size + 1, 8, none⟩ (.int .i64 0)).alloc o).cell? ⟨w.heap.size + 1, 3, none⟩ = some (.int .i64 t) := fun o => M.bk_cell ((heap_alloc_old _ _ (by rw [hs9]; omega)).trans RR) 3 _ rfl
      have rr4 : ∀ o, ((((((((((w2.setCell ⟨w.heap.size + 1, 0, none⟩ (.slice a' ss.length cap')).setCell ⟨w.heap.size + 1, 1, none⟩ (.int .i64 (X : Int))).setCell ⟨w.heap.size + 1, 2, none⟩ (.int .i64 d)).setCell ⟨w.heap.size + 1, 3, none⟩ (.int .i64 t)).setCell ⟨w.heap.size + 1, 4, none⟩ (.slice none 0 0)).setCell ⟨w.heap.size + 1, 5, none⟩ (.int .i64 0)).setCell ⟨w.heap.size + 1, 6, none⟩ (.slice none 0 0)).setCell ⟨w.heap.size + 1, 7, none⟩ (.int .i64 0)).setCell ⟨w.heap.size + 1, 8, none⟩ (.int .i64 0)).alloc o).cell? ⟨w.heap.size + 1, 4, none⟩ = some (.slice none 0 0) := fun o => M.bk_cell ((heap_alloc_old _ _ (by rw [hs9]; omega)).trans RR) 4 _ rfl
      have rr5 : ∀ o, ((((((((((w2.setCell ⟨w.heap.size + 1, 0, none⟩ (.slice a' ss.length cap')).setCell ⟨w.heap.size + 1, 1, none⟩ (.int .i64 (X : Int))).setCell ⟨w.heap.size + 1, 2, none⟩ (.int .i64 d)).setCell ⟨w.heap.size + 1, 3, none⟩ (.int .i64 t)).setCell ⟨w.heap.size + 1, 4, none⟩ (.slice none 0 0)).setCell ⟨w.heap.size + 1, 5, none⟩ (.int .i64 0)).setCell ⟨w.heap.size + 1, 6, none⟩ (.slice none 0 0)).setCell ⟨w.heap.size + 1, 7, none⟩ (.int .i64 0)).setCell ⟨w.heap.size + 1, 8, none⟩ (.int .i64 0)).alloc o).cell? ⟨w.heap.size + 1, 5, none⟩ = some (.int .i64 0) := fun o => M.bk_cell ((heap_alloc_old _ _ (by rw [hs9]; omega)).trans RR) 5 _ rfl
      have rr6 : ∀ o, ((((((((((w2.setCell ⟨w.heap.size + 1, 0, none⟩ (.slice a' ss.length cap')).setCell ⟨w.heap.size + 1, 1, none⟩ (.int .i64 (X : Int))).setCell ⟨w.heap.size + 1, 2, none⟩ (.int .i64 d)).setCell ⟨w.heap.size + 1, 3, none⟩ (.int .i64 t)).setCell ⟨w.heap.size + 1, 4, none⟩ (.slice none 0 0)).setCell ⟨w.heap.size + 1, 5, none⟩ (.int .i64 0)).setCell ⟨w.heap.size + 1, 6, none⟩ (.slice none 0 0)).setCell ⟨w.heap.size + 1, 7, none⟩ (.int .i64 0)).setCell ⟨w.heap.size + 1, 8, none⟩ (.int .i64 0)).alloc o).cell? ⟨w.heap.size + 1, 6, none⟩ = some (.slice none 0 0) := fun o => M.bk_cell ((heap_alloc_old _ _ (by rw [hs9]; omega)).trans RR) 6 _ rfl
      have rr7 : ∀ o, ((((((((((w2.setCell ⟨w.heap.size + 1, 0, none⟩ (.slice a' ss.length cap')).setCell ⟨w.heap.size + 1, 1, none⟩ (.int .i64 (X : Int))).setCell ⟨w.heap.size + 1, 2, none⟩ (.int .i64 d)).setCell ⟨w.heap.size + 1, 3, none⟩ (.int .i64 t)).setCell ⟨w.heap.size + 1, 4, none⟩ (.slice none 0 0)).setCell ⟨w.heap.size + 1, 5, none⟩ (.int .i64 0)).setCell ⟨w.heap.size + 1, 6, none⟩ (.slice none 0 0)).setCell ⟨w.heap.size + 1, 7, none⟩ (.int .i64 0)).setCell ⟨w.heap.size + 1, 8, none⟩ (.int .i64 0)).alloc o).cell? ⟨w.heap.size + 1, 7, none⟩ = some (.int .i64 0) := fun o => M.bk_cell ((heap_alloc_old _ _ (by rw [hs9]; omega)).trans RR) 7 _ rfl
      have rr8 : ∀ o, ((((((((((w2.setCell ⟨w.heap.size + 1, 0, none⟩ (.slice a' ss.length cap')).setCell ⟨w.heap.size + 1, 1, none⟩ (.int .i64 (X : Int))).setCell ⟨w.heap.size + 1, 2, none⟩ (.int .i64 d)).setCell ⟨w.heap.size + 1, 3, none⟩ (.int .i64 t)).setCell ⟨w.heap.size + 1, 4, none⟩ (.slice none 0 0)).setCell ⟨w.heap.size + 1, 5, none⟩ (.int .i64 0)).setCell ⟨w.heap.size + 1, 6, none⟩ (.slice none 0 0)).setCell ⟨w.heap.size + 1, 7, none⟩ (.int .i64 0)).setCell ⟨w.heap.size + 1, 8, none⟩ (.int .i64 0)).alloc o).cell? ⟨w.heap.size + 1, 8, none⟩ = some (.int .i64 0) := fun o => M.bk_cell ((heap_alloc_old _ _ (by rw [hs9]; omega)).trans RR) 8 _ rfl
      clear RR hs9
      go_wp2
      refine bodyPost_ret (v := .agg #[.slice a' ss.length cap', .int .i64 (X : Int), .int .i64 d, .int .i64 t, .slice none 0 0, .int .i64 0, .slice none 0 0, .int .i64 0, .int .i64 0]) (by simp [results, Try.results14, go_sem, rr0, rr1, rr2, rr3, rr4, rr5, rr6, rr7, rr8]) rfl ?_
      refine ⟨FIN.out _ ?_, ?_⟩
      · exact M.OwnS.below (((((((((O2.out.setLow (by omega) _ _).setLow (by omega) _ _).setLow (by omega) _ _).setLow (by omega) _ _).setLow (by omega) _ _).setLow (by omega) _ _).setLow (by omega) _ _).setLow (by omega) _ _).setLow (by omega) _ _) (M.all2 _)
      · refine M.sl ?_ (M.all2 _)
        exact ((((((((B2.out.setCell (by simp) _).setCell (by simp) _).setCell (by simp) _).setCell (by simp) _).setCell (by simp) _).setCell (by simp) _).setCell (by simp) _).setCell (by simp) _).setCell (by simp) _
    · have d1 : ((X : Int) == (n : Int)) = false := by rw [beq_eq_false_iff_ne]; exact hxe
      have d2 : decide (now < d) = true := decide_eq_true (by omega)
      clear hxe hidle
      have RR := M.nine V1.out (.slice a' ss.length cap') (.int .i64 (X : Int)) (.int .i64 d) (.int .i64 t) (.slice none 0 0) (.int .i64 0) (.slice none 0 0) (.int .i64 0) (.int .i64 0)
      have hs9 : (((((((((w2.setCell ⟨w.heap.size + 1, 0, none⟩ (.slice a' ss.length cap')).setCell ⟨w.heap.size + 1, 1, none⟩ (.int .i64 (X : Int))).setCell ⟨w.heap.size + 1, 2, none⟩ (.int .i64 d)).setCell ⟨w.heap.size + 1, 3, none⟩ (.int .i64 t)).setCell ⟨w.heap.size + 1, 4, none⟩ (.slice none 0 0)).setCell ⟨w.heap.size + 1, 5, none⟩ (.int .i64 0)).setCell ⟨w.heap.size + 1, 6, none⟩ (.slice none 0 0)).setCell ⟨w.heap.size + 1, 7, none⟩ (.int .i64 0)).setCell ⟨w.heap.size + 1, 8, none⟩ (.int .i64 0)).heap.size = w2.heap.size := by simp [World.setCell]
      have rr0 : ∀ o, ((((((((((w2.setCell ⟨w.heap.size + 1, 0, none⟩ (.slice a' ss.length cap')).setCell ⟨w.heap.size + 1, 1, none⟩ (.int .i64 (X : Int))).setCell ⟨w.heap.size + 1, 2, none⟩ (.int .i64 d)).setCell ⟨w.heap.size + 1, 3, none⟩ (.int .i64 t)).setCell ⟨w.heap.size + 1, 4, none⟩ (.slice none 0 0)).setCell ⟨w.heap.size + 1, 5, none⟩ (.int .i64 0)).setCell ⟨w.heap.size + 1, 6, none⟩ (.slice none 0 0)).setCell ⟨w.heap.size + 1, 7, none⟩ (.int .i64 0)).setCell ⟨w.heap.size + 1, 8, none⟩ (.int .i64 0)).alloc o).cell? ⟨w.heap.size + 1, 0, none⟩ = some (.slice a' ss.length cap') := fun o => M.bk_cell ((heap_alloc_old _ _ (by rw [hs9]; omega)).trans RR) 0 _ rfl
      have rr1 : ∀ o, ((((((((((w2.setCell ⟨w.heap.size + 1, 0, none⟩ (.slice a' ss.length cap')).setCell ⟨w.heap.size + 1, 1, none⟩ (.int .i64 (X : Int))).setCell ⟨w.heap.size + 1, 2, none⟩ (.int .i64 d)).setCell ⟨w.heap.size + 1, 3, none⟩ (.int .i64 t)).setCell ⟨w.heap.size + 1, 4, none⟩ (.slice none 0 0)).setCell ⟨w.heap.size + 1, 5, none⟩ (.int .i64 0)).setCell ⟨w.heap.size + 1, 6, none⟩ (.slice none 0 0)).setCell ⟨w.heap.size + 1, 7, none⟩ (.int .i64 0)).setCell ⟨w.heap.size + 1, 8, none⟩ (.int .i64 0)).alloc o).cell? ⟨w.heap.size + 1, 1, none⟩ = some (.int .i64 (X : Int)) := fun o => M.bk_cell ((heap_alloc_old _ _ (by rw [hs9]; omega)).trans RR) 1 _ rfl
      have rr2 : ∀ o, ((((((((((w2.setCell ⟨w.heap.size + 1, 0, none⟩ (.slice a' ss.length cap')).setCell ⟨w.heap.size + 1, 1, none⟩ (.int .i64 (X : Int))).setCell ⟨w.heap.size + 1, 2, none⟩ (.int .i64 d)).setCell ⟨w.heap.size + 1, 3, none⟩ (.int .i64 t)).setCell ⟨w.heap.size + 1, 4, none⟩ (.slice none 0 0)).setCell ⟨w.heap.size + 1, 5, none⟩ (.int .i64 0)).setCell ⟨w.heap.size + 1, 6, none⟩ (.slice none 0 0)).setCell ⟨w.heap.size + 1, 7, none⟩ (.int .i64 0)).setCell ⟨w.heap.size + 1, 8, none⟩ (.int .i64 0)).alloc o).cell? ⟨w.heap.size + 1, 2, none⟩ = some (.int .i64 d) := fun o => M.bk_cell ((heap_alloc_old _ _ (by rw [hs9]; omega)).trans RR) 2 _ rfl
      have rr3 : ∀ o, ((((((((((w2.setCell ⟨w.heap.size + 1, 0, none⟩ (.slice a' ss.length cap')).setCell ⟨w.heap.size + 1, 1, none⟩ (.int .i64 (X : Int))).setCell ⟨w.heap.size + 1, 2, none⟩ (.int .i64 d)).setCell ⟨w.heap.size + 1, 3, none⟩ (.int .i64 t)).setCell ⟨w.heap.size + 1, 4, none⟩ (.slice none 0 0)).setCell ⟨w.heap.size + 1, 5, none⟩ (.int .i64 0)).setCell ⟨w.heap.size + 1, 6, none⟩ (.slice none 0 0)).setCell ⟨w.heap.size + 1, 7, none⟩ (.int .i64 0)).setCell ⟨w.heap.size + 1, 8, none⟩ (.int .i64 0)).alloc o).cell? ⟨w.heap.size + 1, 3, none⟩ = some (.int .i64 t) := fun o => M.bk_cell ((heap_alloc_old _ _ (by rw [hs9]; omega)).trans RR) 3 _ rfl
      have rr4 : ∀ o, ((((((((((w2.setCell ⟨w.heap.size + 1, 0, none⟩ (.slice a' ss.length cap')).setCell ⟨w.heap.size + 1, 1, none⟩ (.int .i64 (X : Int))).setCell ⟨w.heap.size + 1, 2, none⟩ (.int .i64 d)).setCell ⟨w.heap.size + 1, 3, none⟩ (.int .i64 t)).setCell ⟨w.heap.size + 1, 4, none⟩ (.slice none 0 0)).setCell ⟨w.heap.size + 1, 5, none⟩ (.int .i64 0)).setCell ⟨w.heap.size + 1, 6, none⟩ (.slice none 0 0)).setCell ⟨w.heap.size + 1, 7, none⟩ (.int .i64 0)).setCell ⟨w.heap.size + 1, 8, none⟩ (.int .i64 0)).alloc o).cell? ⟨w.heap.size + 1, 4, none⟩ = some (.slice none 0 0) := fun o => M.bk_cell ((heap_alloc_old _ _ (by rw [hs9]; omega)).trans RR) 4 _ rfl
      have rr5 : ∀ o, ((((((((((w2.setCell ⟨w.heap.size + 1, 0, none⟩ (.slice a' ss.length cap')).setCell ⟨w.heap.size + 1, 1, none⟩ (.int .i64 (X : Int))).setCell ⟨w.heap.size + 1, 2, none⟩ (.int .i64 d)).setCell ⟨w.heap.size + 1, 3, none⟩ (.int .i64 t)).setCell ⟨w.heap.size + 1, 4, none⟩ (.slice none 0 0)).setCell ⟨w.heap.size + 1, 5, none⟩ (.int .i64 0)).setCell ⟨w.heap.size + 1, 6, none⟩ (.slice none 0 0)).setCell ⟨w.heap.size + 1, 7, none⟩ (.int .i64 0)).setCell ⟨w.heap.size + 1, 8, none⟩ (.int .i64 0)).alloc o).cell? ⟨w.heap.size + 1, 5, none⟩ = some (.int .i64 0) := fun o => M.bk_cell ((heap_alloc_old _ _ (by rw [hs9]; omega)).trans RR) 5 _ rfl
      have rr6 : ∀ o, ((((((((((w2.setCell ⟨w.heap.size + 1, 0, none⟩ (.slice a' ss.length cap')).setCell ⟨w.heap.size + 1, 1, none⟩ (.int .i64 (X : Int))).setCell ⟨w.heap.size + 1, 2, none⟩ (.int .i64 d)).setCell ⟨w.heap.size + 1, 3, none⟩ (.int .i64 t)).setCell ⟨w.heap.size + 1, 4, none⟩ (.slice none 0 0)).setCell ⟨w.heap.size + 1, 5, none⟩ (.int .i64 0)).setCell ⟨w.heap.size + 1, 6, none⟩ (.slice none 0 0)).setCell ⟨w.heap.size + 1, 7, none⟩ (.int .i64 0)).setCell ⟨w.heap.size + 1, 8, none⟩ (.int .i64 0)).alloc o).cell? ⟨w.heap.size + 1, 6, none⟩ = some (.slice none 0 0) := fun o => M.bk_cell ((heap_alloc_old _ _ (by rw [hs9]; omega)).trans RR) 6 _ rfl
      have rr7 : ∀ o, ((((((((((w2.setCell ⟨w.heap.size + 1, 0, none⟩ (.slice a' ss.length cap')).setCell ⟨w.heap.size + 1, 1, none⟩ (.int .i64 (X : Int))).setCell ⟨w.heap.size + 1, 2, none⟩ (.int .i64 d)).setCell ⟨w.heap.size + 1, 3, none⟩ (.int .i64 t)).setCell ⟨w.heap.size + 1, 4, none⟩ (.slice none 0 0)).setCell ⟨w.heap.size + 1, 5, none⟩ (.int .i64 0)).setCell ⟨w.heap.size + 1, 6, none⟩ (.slice none 0 0)).setCell ⟨w.heap.size + 1, 7, none⟩ (.int .i64 0)).setCell ⟨w.heap.size + 1, 8, none⟩ (.int .i64 0)).alloc o).cell? ⟨w.heap.size + 1, 7, none⟩ = some (.int .i64 0) := fun o => M.bk_cell ((heap_alloc_old _ _ (by rw [hs9]; omega)).trans RR) 7 _ rfl
      have rr8 : ∀ o, ((((((((((w2.setCell ⟨w.heap.size + 1, 0, none⟩ (.slice a' ss.length cap')).setCell ⟨w.heap.size + 1, 1, none⟩ (.int .i64 (X : Int))).setCell ⟨w.heap.size + 1, 2, none⟩ (.int .i64 d)).setCell ⟨w.heap.size + 1, 3, none⟩ (.int .i64 t)).setCell ⟨w.heap.size + 1, 4, none⟩ (.slice none 0 0)).setCell ⟨w.heap.size + 1, 5, none⟩ (.int .i64 0)).setCell ⟨w.heap.size + 1, 6, none⟩ (.slice none 0 0)).setCell ⟨w.heap.size + 1, 7, none⟩ (.int .i64 0)).setCell ⟨w.heap.size + 1, 8, none⟩ (.int .i64 0)).alloc o).cell? ⟨w.heap.size + 1, 8, none⟩ = some (.int .i64 0) := fun o => M.bk_cell ((heap_alloc_old _ _ (by rw [hs9]; omega)).trans RR) 8 _ rfl
      clear RR hs9
      go_wp2
      refine bodyPost_ret (v := .agg #[.slice a' ss.length cap', .int .i64 (X : Int), .int .i64 d, .int .i64 t, .slice none 0 0, .int .i64 0, .slice none 0 0, .int .i64 0, .int .i64 0]) (by simp [results, Try.results14, go_sem, rr0, rr1, rr2, rr3, rr4, rr5, rr6, rr7, rr8]) rfl ?_
      refine ⟨FIN.out _ ?_, ?_⟩
      · exact M.OwnS.below (((((((((O2.out.setLow (by omega) _ _).setLow (by omega) _ _).setLow (by omega) _ _).setLow (by omega) _ _).setLow (by omega) _ _).setLow (by omega) _ _).setLow (by omega) _ _).setLow (by omega) _ _).setLow (by omega) _ _) (M.all2 _)
      · refine M.sl ?_ (M.all2 _)
        exact ((((((((B2.out.setCell (by simp) _).setCell (by simp) _).setCell (by simp) _).setCell (by simp) _).setCell (by simp) _).setCell (by simp) _).setCell (by simp) _).setCell (by simp) _).setCell (by simp) _
  · have d1 : ((X : Int) == (n : Int)) = false := by rw [beq_eq_false_iff_ne]; intro e; exact hidle (.inl e)
    have d2 : decide (now < d) = false := decide_eq_false (fun e => hidle (.inr e))
    have HXn : X < n := by have := HX1.out; have := HN.out; omega
    have e1 : IntKind.i64.wrap (now + t) = now + t := by rw [IntKind.wrap_i64]; omega
    have e2 : IntKind.i64.wrap (2 * t) = 2 * t := by rw [IntKind.wrap_i64]; omega
    have e3 : IntKind.i64.wrap ((X : Int) + 4) = (X : Int) + 4 := by rw [IntKind.wrap_i64]; omega
    obtain ⟨m, hm⟩ : ∃ m, m = min (X + 4) n - X := ⟨_, rfl⟩
    have HMM := M.hl hm
    have hm4 : m ≤ 4 := by omega
    obtain ⟨E, hE⟩ : ∃ E : Nat, E = X + m := ⟨_, rfl⟩
    have HE := M.hl hE
    have hE3 : E ≤ 300 := by omega
    have CMin : Hid (∀ W, Calls Try.prog 43 #[.int .i64 (n : Int), .int .i64 ((X : Int) + 4)] W fun e w' => e = .returned (.int .i64 (E : Int)) ∧ W = w') := fun W => by
      have := sMin_at (n : Int) ((X : Int) + 4) W
      rw [show min (n : Int) ((X : Int) + 4) = (E : Int) by omega] at this
      exact this
    have CM2 : Hid (∀ W, Calls Try.prog 43 #[.int .i64 64, .int .i64 (2 * t)] W fun e w' => e = .returned (.int .i64 (min (2 * t) 64)) ∧ W = w') := fun W => by
      have := sMin_at 64 (2 * t) W
      rw [show min 64 (2 * t) = min (2 * t) 64 by omega] at this
      exact this
    have CP : Hid (∀ (q : Nat) W, q < n → Below w.heap.size w W → Calls Try.prog 44 #[.slice (some ad) n c, .int .i64 (q : Int)] W fun e w' => e = .returned (M.pval (M.pof ss (q : Int))) ∧ Below W.heap.size W w') := fun q W hq hW => by
      have hql : q < ss.length := by have := HN.out; omega
      have hqk := List.getElem?_eq_getElem (l := ss) (i := q) hql
      rw [M.pof_at HFI.out hqk]
      exact sL06P_any W (some ad) n c ss q _ (HS.out.below hW) hqk (by have := (M.fits_iff.1 HFI.out).2 _ (List.mem_of_getElem? hqk); omega) (by omega)
    unfold M.pval at CP
    have HNI : Hid (¬ ((X : Int) = (ss.length : Int) ∨ now < d)) := by show ¬ _; rw [← HN.out]; exact hidle
    have LTv : Hid (∀ j, (Value.slice a' ss.length cap').ownBlock = some j → j < w2.heap.size) := fun j hj => (World.ownsRow.lt O2.out j hj).2
    clear hm hE hidle
    go_wp2
    go_loopw [7] (fun x wr => ∃ (i q : Nat) (pv : Value), x = .int .i64 (q : Int) ∧ q ≤ E ∧ Hid (q = X + i) ∧ Hid (wr.heap[w2.heap.size]? = some (.cells #[.slice a' ss.length cap', .int .i64 (X : Int), .int .i64 d, .int .i64 t, .slice none 0 0, .int .i64 0, pv, .int .i64 0, .int .i64 0] 35 (0, 0))) ∧ Hid (M.OwnP wr (w2.heap.size + 1) pv (M.winL ss X i)) ∧ Hid (wr.heap[w.heap.size]? = some (.cells #[.slice (some ad) n c, .int .i64 (X : Int), .int .i64 d, .int .i64 t] 27 (0, 0))) ∧ Hid (wr.heap[w.heap.size + 1]? = some (.cells #[.slice none 0 0, .int .i64 0, .int .i64 0, .int .i64 0, .slice none 0 0, .int .i64 0, .slice none 0 0, .int .i64 0, .int .i64 0] 35 (0, 0))) ∧ Hid (M.OwnS wr w1.heap.size (.slice a' ss.length cap') ss) ∧ Hid (Below w.heap.size w wr)) (fun x _ => E - (intOf x).toNat)
    case atStart => exact ⟨0, X, .slice none 0 0, rfl, by have := HE.out; omega, rfl, heap_alloc_new _ _, M.OwnP.nil _ _, (AL.out _ _ (by omega)).trans V0.out, (AL.out _ _ (by omega)).trans V1.out, OA.out _, BA.out _⟩
    case round =>
      obtain ⟨i, q, pv, rfl, hq, HQ, HG, HP, E0, E1, HO, HBr⟩ := hrel
      have x0 := M.bk_cell E0.out 0 (.slice (some ad) n c) rfl
      have x1 := M.bk_cell E0.out 1 (.int .i64 (X : Int)) rfl
      have x3 := M.bk_cell E0.out 3 (.int .i64 t) rfl
      obtain ⟨ap, cp, rfl⟩ := HP.out.len
      have hac : (M.winL ss X i).length = i := M.winL_len ss X i
      rw [hac] at HG HP
      have y6 := M.bk_cell HG.out 6 (.slice ap i cp) rfl
      have hGl : w2.heap.size < wr.heap.size := (Array.getElem?_eq_some_iff.1 HG.out).1
      by_cases hlt : q < E
      · have hqn : q < n := by have := HE.out; have := HMM.out; omega
        obtain ⟨p, hp⟩ : ∃ p, p = M.pof ss (q : Int) := ⟨_, rfl⟩
        have CQ := CP.out q wr.drew hqn (HBr.out.drew)
        rw [← hp] at CQ
        have HCQ := M.hl CQ
        have HPP := M.hl hp
        have BD : Hid (Below wr.heap.size wr wr.drew) := (Below.refl _ _).drew
        have hi4 : i ≤ 4 := by have := HQ.out; have := HE.out; omega
        obtain ⟨i0, hi, hz0, hz1, hz2⟩ := info_parts Try.infoPs
        clear hp CQ x3
        go_wp2_with fail
        refine (CMin.out _).mono ?_
        rintro e w3 ⟨rfl, rfl⟩
        go_wp2_with fail
        go_region_law (first | (refine M.stepCall rfl 44 (.tmp 48) (.tmp 49) 22 2 rfl (.slice (some ad) n c) (.int .i64 (q : Int)) (by simp [Act.eval]) (by simp [Act.eval]) (.agg #[.int .i64 p.q, .bool p.l, .string p.s, .int .i64 p.c]) (fun w' => Below wr.drew.heap.size wr.drew w') HCQ.out (by kernel_rfl) ?_; intro w4 hb4; have B4 := M.hl (M.sl BD.out hb4); have P4 := M.hl (HP.out.below B4.out); have G4 := M.hl ((B4.out.block w2.heap.size hGl).trans HG.out); have z6 : w4.cell? ⟨w2.heap.size, 6, none⟩ = some (.slice ap i cp) := M.bk_cell G4.out 6 _ rfl; have hs4 : wr.heap.size ≤ w4.heap.size := B4.out.size; have z6a : ∀ o, (w4.alloc o).cell? ⟨w2.heap.size, 6, none⟩ = some (.slice ap i cp) := fun o => M.bk_cell ((heap_alloc_old _ _ (by omega)).trans G4.out) 6 _ rfl; have LT4 := M.hl (World.ownsRow.lt P4.out); clear hb4) | (refine M.stepOwn rfl (.tmp 46) (.tmp 51) 33 rfl (w2.heap.size + 1) 53 i0 (.agg #[.int .i64 0, .bool false, .string ⟨#[]⟩, .int .i64 0]) 4 40 Try.underlying33 hi hz0 hz1 hz2 rfl (by decide) (.slice ap i cp) i (M.cellsP (M.winL ss X i)) (by simp [Act.eval]) (M.ownP_alloc hac P4.out _) ⟨w4.heap.size, 0, none⟩ 1 1 (M.pcells p) (by simp [Act.eval]) rfl (M.four_n _ p _) (M.oneCell4 p) (by unfold maxLen; omega) (by omega) (by simp; omega) ?_; intro v' w9 hown hgrow; have hO9 := M.ownP_more hac hown; obtain ⟨a9, c9, rfl⟩ := M.OwnP.len9 hO9 (show (M.winL ss X i ++ [p]).length = i + 1 by rw [List.length_append, hac]; rfl); have HO9 := M.hl hO9; have BK := M.hl (fun (b : Nat) (h1 : b < w2.heap.size + 1) => (hgrow.block b (by simp; omega) (fun e => by have := (LT4.out _ e.symm).1; omega)).trans ((heap_alloc_old _ _ (by omega)).trans (B4.out.block b (by omega)))); have HGR := M.hl hgrow; have z9 : w9.cell? ⟨w2.heap.size, 6, none⟩ = some (.slice ap i cp) := M.bk_cell ((BK.out w2.heap.size (by omega)).trans HG.out) 6 _ rfl; have f9 : w9.frozen? ⟨w2.heap.size, 6, none⟩ = false := M.bk_free ((BK.out w2.heap.size (by omega)).trans HG.out) 6; clear hown hO9 hgrow))
        all_goals
          have B9 : Hid (Below w.heap.size w w9) := ((M.sl HBr.out B4.out).alloc (M.sl HBr.out B4.out).size _).grown HGR.out ((M.sl HBr.out B4.out).alloc (M.sl HBr.out B4.out).size _).size (fun j hj => by have := (LT4.out j hj).1; omega)
          have N0 : Hid ((w9.setCell ⟨w2.heap.size, 6, none⟩ (.slice a9 (i + 1) c9)).heap[w.heap.size]? = some (.cells #[.slice (some ad) n c, .int .i64 (X : Int), .int .i64 d, .int .i64 t] 27 (0, 0))) := by show _ = _; rw [M.setfr (by omega)]; exact (BK.out _ (by omega)).trans E0.out
          have N1 : Hid ((w9.setCell ⟨w2.heap.size, 6, none⟩ (.slice a9 (i + 1) c9)).heap[w.heap.size + 1]? = some (.cells #[.slice none 0 0, .int .i64 0, .int .i64 0, .int .i64 0, .slice none 0 0, .int .i64 0, .slice none 0 0, .int .i64 0, .int .i64 0] 35 (0, 0))) := by show _ = _; rw [M.setfr (by omega)]; exact (BK.out _ (by omega)).trans E1.out
          have NG : Hid ((w9.setCell ⟨w2.heap.size, 6, none⟩ (.slice a9 (i + 1) c9)).heap[w2.heap.size]? = some (.cells #[.slice a' ss.length cap', .int .i64 (X : Int), .int .i64 d, .int .i64 t, .slice none 0 0, .int .i64 0, .slice a9 (i + 1) c9, .int .i64 0, .int .i64 0] 35 (0, 0))) := by show _ = _; have := (BK.out w2.heap.size (by omega)).trans HG.out; simp [World.setCell, Array.getElem?_modify, this]
          have NP : Hid (M.OwnP (w9.setCell ⟨w2.heap.size, 6, none⟩ (.slice a9 (i + 1) c9)) (w2.heap.size + 1) (.slice a9 (i + 1) c9) (M.winL ss X (i + 1))) := by
            show M.OwnP _ _ _ _
            rw [M.winL_snoc, ← HQ.out, ← HPP.out]
            exact HO9.out.setLow (by omega) _ _
          have NO : Hid (M.OwnS (w9.setCell ⟨w2.heap.size, 6, none⟩ (.slice a9 (i + 1) c9)) w1.heap.size (.slice a' ss.length cap') ss) := by
            have h1 : M.OwnS w9 w1.heap.size (.slice a' ss.length cap') ss := by
              obtain ⟨hl'', h0'' | ⟨g2, cap2, cur2, hv2, hg2, hh2, hr2⟩⟩ := HO.out
              · exact ⟨hl'', .inl h0''⟩
              · have := LTv.out g2 (by rw [hv2]; rfl)
                exact ⟨hl'', .inr ⟨g2, cap2, cur2, hv2, hg2, (BK.out g2 (by omega)).trans hh2, hr2⟩⟩
            exact M.OwnS.setAt' h1 (fun g' hg' => by have := LTv.out g' hg'; omega) _ _
          have NB := M.hl (B9.out.setCell (p := ⟨w2.heap.size, 6, none⟩) (by show w.heap.size ≤ w2.heap.size; omega) (.slice a9 (i + 1) c9))
          clear z6 z6a z9 f9
          go_wp2
          go_roundw
          case rel => exact ⟨i + 1, q + 1, .slice a9 (i + 1) c9, by go_num, by omega, by show _ = _; have := HQ.out; omega, NG, NP, N0, N1, NO, NB⟩
          case measure => simp [intOf]; omega
      · obtain rfl : i = m := by have := HQ.out; have := HE.out; omega
        have y0 := M.bk_cell HG.out 0 (.slice a' ss.length cap') rfl
        have y1 := M.bk_cell HG.out 1 (.int .i64 (X : Int)) rfl
        have y2 := M.bk_cell HG.out 2 (.int .i64 d) rfl
        have y3 := M.bk_cell HG.out 3 (.int .i64 t) rfl
        have y4 := M.bk_cell HG.out 4 (.slice none 0 0) rfl
        have y5 := M.bk_cell HG.out 5 (.int .i64 0) rfl
        have y7 := M.bk_cell HG.out 7 (.int .i64 0) rfl
        have y8 := M.bk_cell HG.out 8 (.int .i64 0) rfl
        have fG := M.bk_free HG.out
        have r0 := M.bk_cell E1.out 0 (.slice none 0 0) rfl
        have r1 := M.bk_cell E1.out 1 (.int .i64 0) rfl
        have r2 := M.bk_cell E1.out 2 (.int .i64 0) rfl
        have r3 := M.bk_cell E1.out 3 (.int .i64 0) rfl
        have r4 := M.bk_cell E1.out 4 (.slice none 0 0) rfl
        have r5 := M.bk_cell E1.out 5 (.int .i64 0) rfl
        have r6 := M.bk_cell E1.out 6 (.slice none 0 0) rfl
        have r7 := M.bk_cell E1.out 7 (.int .i64 0) rfl
        have r8 := M.bk_cell E1.out 8 (.int .i64 0) rfl
        have fR := M.bk_free E1.out
        have hneG : ¬ (w2.heap.size = w.heap.size + 1) := by omega
        have hneG' : ¬ (w.heap.size + 1 = w2.heap.size) := by omega
        have hne0 : ¬ (w2.heap.size = w.heap.size) := by omega
        have hne0' : ¬ (w.heap.size = w2.heap.size) := by omega
        have hdq : decide ((q : Int) < (E : Int)) = false := decide_eq_false (by omega)
        go_wp2_with fail
        refine (CMin.out _).mono ?_
        rintro e w3 ⟨rfl, rfl⟩
        go_wp2_with fail
        refine (CM2.out _).mono ?_
        rintro e w3 ⟨rfl, rfl⟩
        go_wp2
        refine bodyPost_ret (v := .agg #[.slice a' ss.length cap', .int .i64 (X : Int), .int .i64 (now + t), .int .i64 (min (2 * t) 64), .slice none 0 0, .int .i64 0, .slice ap i cp, .int .i64 0, .int .i64 0]) (by simp [results, Try.results14, go_sem, r0, r1, r2, r3, r4, r5, r6, r7, r8]) rfl ?_
        refine ⟨⟨_, _, ss, X, now + t, min (2 * t) 64, M.winL ss X i, 0, rfl, .inr (.inr ⟨HAT.out, HNI.out, rfl, rfl, rfl, rfl, ?_, rfl⟩), ?_, ?_⟩, ?_⟩
        · rw [Int.toNat_natCast, ← HN.out, ← HMM.out]
        · have h1 := M.OwnS.setAt' (M.OwnS.setAt' HO.out (H := w2.heap.size) (fun g' hg' => by have := LTv.out g' hg'; omega) 2 (.int .i64 (now + t))) (H := w2.heap.size) (fun g' hg' => by have := LTv.out g' hg'; omega) 3 (.int .i64 (min (2 * t) 64))
          exact M.OwnS.lower (((((((((h1.setLow (by omega) _ _).setLow (by omega) _ _).setLow (by omega) _ _).setLow (by omega) _ _).setLow (by omega) _ _).setLow (by omega) _ _).setLow (by omega) _ _).setLow (by omega) _ _).setLow (by omega) _ _) (by omega)
        · have h1 := (HP.out.setLow (H := w2.heap.size) (by omega) 2 (.int .i64 (now + t))).setLow (H := w2.heap.size) (by omega) 3 (.int .i64 (min (2 * t) 64))
          exact M.OwnP.lower (((((((((h1.setLow (by omega) _ _).setLow (by omega) _ _).setLow (by omega) _ _).setLow (by omega) _ _).setLow (by omega) _ _).setLow (by omega) _ _).setLow (by omega) _ _).setLow (by omega) _ _).setLow (by omega) _ _) (by omega)
        · have h1 := (HBr.out.setCell (p := ⟨w2.heap.size, 2, none⟩) (by show w.heap.size ≤ w2.heap.size; omega) (.int .i64 (now + t))).setCell (p := ⟨w2.heap.size, 3, none⟩) (by show w.heap.size ≤ w2.heap.size; omega) (.int .i64 (min (2 * t) 64))
          exact ((((((((h1.setCell (by simp) _).setCell (by simp) _).setCell (by simp) _).setCell (by simp) _).setCell (by simp) _).setCell (by simp) _).setCell (by simp) _).setCell (by simp) _).setCell (by simp) _
end Go.Proofs.Ytafenhodfoflbab
