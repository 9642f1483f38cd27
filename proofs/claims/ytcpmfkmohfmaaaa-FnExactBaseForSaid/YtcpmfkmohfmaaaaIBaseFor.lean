/-
  What BaseFor of the program does.
-/
import Derived.Test.YtcpmfkmohfmaaaaIBack
namespace Go.Proofs.Ytcpmfkmohfmaaaa
open Go.RowKit Go.Shelf
attribute [local go_sem] Oper.semAt_some
/-- A mark in a block of its own. -/
def M.Box31 (W : World) (B : Nat) (m : M.MkD) : Prop := W.heap[B]? = some (.cells #[.int .i64 m.id, .int .i64 m.level, .int .i64 m.base] 31 (0, 0))
theorem M.Box31.new (W : World) (m : M.MkD) : M.Box31 (W.alloc (.cells #[.int .i64 m.id, .int .i64 m.level, .int .i64 m.base] 31)) W.heap.size m := World.alloc_heap_new W _
theorem M.Box31.kept {W W' : World} {row : Option Nat} {B : Nat} {m : M.MkD} (h : M.Box31 W B m) (hg : W.grownBy W' row) (hne : some B ≠ row) : M.Box31 W' B m := (hg.block B (Array.getElem?_eq_some_iff.1 h).1 hne).trans h
theorem M.Box31.cells {W : World} {B : Nat} {m : M.MkD} (h : M.Box31 W B m) : W.cell? ⟨B, 0, none⟩ = some (.int .i64 m.id) ∧ W.cell? ⟨B, 1, none⟩ = some (.int .i64 m.level) ∧ W.cell? ⟨B, 2, none⟩ = some (.int .i64 m.base) := by
  unfold M.Box31 at h
  refine ⟨?_, ?_, ?_⟩ <;> simp [World.cell?, h]
/-- None that came is of a lower level. -/
def M.NoLow (lv : Int) (pre : List (Int × M.MkD)) : Prop := ∀ p ∈ pre, ¬ p.2.level < lv
/-- The last one that came is of a lower level, and none ahead of it. -/
def M.Hit (lv : Int) (pre : List (Int × M.MkD)) : Prop := ∃ q x, pre = q ++ [x] ∧ M.NoLow lv q ∧ x.2.level < lv
theorem M.NoLow.snoc {lv : Int} {pre : List (Int × M.MkD)} {x : Int × M.MkD} (h : M.NoLow lv pre) (hx : ¬ x.2.level < lv) : M.NoLow lv (pre ++ [x]) := fun p hp => by
  rcases List.mem_append.1 hp with h1 | h1
  · exact h p h1
  · rw [List.mem_singleton.1 h1]; exact hx
/-- The Id of what came last. -/
def M.lastId (pre : List (Int × M.MkD)) : Int := (pre.getLast?.map fun x => x.2.id).getD 0
theorem M.hit_last {ms : List M.MkD} {lv : Int} {k : Nat} (hk : k ≤ ms.length) (h : M.Hit lv (M.down ms k)) : M.lastB ms lv ms.length = M.lastId (M.down ms k) := by
  obtain ⟨q, x, e, hq, hx⟩ := h
  cases k with
  | zero => simp [M.down] at e
  | succ k =>
    have hl : ms.length - (k + 1) < ms.length := by omega
    have hs := M.down_succ (ms := ms) (k := k) (j := ms.length - (k + 1)) (by omega) (List.getElem?_eq_getElem hl)
    rw [hs] at e ⊢
    obtain ⟨rfl, e2⟩ := List.append_inj' e rfl
    cases e2
    rw [M.down_last k (by omega) hq, show ms.length - k = ms.length - (k + 1) + 1 by omega, M.lastB_yes (List.getElem?_eq_getElem hl) hx]
    simp [M.lastId]
theorem M.lastB_none {ms : List M.MkD} {lv : Int} (h : ∀ m ∈ ms, ¬ m.level < lv) : ∀ k, M.lastB ms lv k = 0
  | 0 => rfl
  | k + 1 => by
    rw [M.lastB]
    cases hm : ms[k]? with
    | none => exact M.lastB_none h k
    | some m => simp only [if_neg (h m (List.mem_of_getElem? hm))]; exact M.lastB_none h k
theorem M.MarksR.level0 {ms : List M.MkD} (h : M.MarksR ms) : ∀ m ∈ ms, ¬ m.level < 0 := fun m hm => by
  obtain ⟨i, hi, rfl⟩ := List.mem_iff_getElem.1 hm
  have := h.2.mk (List.getElem?_eq_getElem hi)
  unfold M.mkR at this
  simp only [Bool.and_eq_true, decide_eq_true_eq] at this
  omega
theorem M.base_out {ms : List M.MkD} {lv : Int} (h : M.MarksR ms) (hl : 0 ≤ lv ∧ lv ≤ 5) : M.BaseOut ms lv (M.lastB ms lv ms.length) := by
  by_cases h1 : 1 ≤ lv
  · exact .inl ⟨h, h1, hl.2, rfl⟩
  · obtain rfl : lv = 0 := by omega
    exact .inr ⟨fun h => h1 h.2.1, M.lastB_none h.level0 _⟩
theorem M.lastId_snoc (q : List (Int × M.MkD)) (x : Int × M.MkD) : M.lastId (q ++ [x]) = x.2.id := by simp [M.lastId]

set_option maxRecDepth 100000 in
set_option maxHeartbeats 4000000 in
theorem iBaseFor_in (w : World) (a : Option Addr) (len cap : Nat) (ms : List M.MkD) (lv : Int) (h : M.Mks w a len cap ms) :
    CallsIn Fence.wide 6 Try.prog 22 #[.slice a len cap, .int .i64 lv] w fun e w' => ∃ v, e = .returned (.int .i64 v) ∧ M.BaseOut ms lv v ∧ Below w.heap.size w w' := by
  have HM := M.hidm h
  have HFL : Hid (len = ms.length) := h.1
  clear h
  have HB0 : Hid (Below w.heap.size w ((w.alloc (.cells #[.int .i64 lv] 2)).alloc (.cells #[.int .i64 0] 2))) := ((Below.refl _ _).alloc (Nat.le_refl _) _).alloc (by simp) _
  refine callsIn_of_wp_marks Try.func22 rfl trivial ?_ rfl
  simp only [Try.ntmps22, List.size_toArray, List.length_cons, List.length_nil, Nat.reduceAdd, Nat.reduceSub, Array.replicate_succ, Array.replicate_zero, List.push_toArray, List.append_toArray, List.nil_append, List.cons_append]
  gi_wp2_with fail
  refine ⟨trivial, (callsIn_wide.2 (iMarksR_any _ a len cap ms (HM.out.below HB0.out))).mono ?_⟩
  rintro e w1 ⟨v, rfl, hv, hb1⟩
  have HV := M.hidm hv
  have B1 := M.hidm (M.sm HB0.out hb1)
  have b3 : Boxed w1 w.heap.size 2 (.int .i64 lv) := (hb1.block w.heap.size (by simp; omega)).trans (((Boxed.new w 2 (.int .i64 lv)).alloc (.cells #[.int .i64 0] 2)))
  have b4 : Boxed w1 (w.heap.size + 1) 2 (.int .i64 0) := by
    have := Boxed.new (w.alloc (.cells #[.int .i64 lv] 2)) 2 (.int .i64 0)
    rw [World.size_alloc] at this
    exact (hb1.block (w.heap.size + 1) (by simp)).trans this
  have c3 := b3.cell
  have c4 := b4.cell
  have f4 := b4.frozen
  clear hv hb1
  cases v
  · have HO : Hid (M.BaseOut ms lv 0) := .inr ⟨fun h => (by have := HV.out.2 h.1; cases this), rfl⟩
    gi_wp2
    refine ⟨trivial, ?_⟩
    gi_wp2
    have hc5 := (b4.set (.int .i64 0)).cell
    refine ⟨.int .i64 0, ?_, 0, rfl, HO.out, B1.out.setCell (by simp) _⟩
    simp [results, Try.results22, go_sem, hc5]
  have HY := M.hidm (HV.out.1 rfl)
  gi_wp2_with fail
  refine ⟨trivial, (callsIn_wide.2 (isLevel_any lv w1)).mono ?_⟩
  rintro e w' ⟨rfl, rfl⟩
  by_cases hlv : 0 ≤ lv ∧ lv ≤ 5
  case neg =>
    rw [decide_eq_false hlv]
    have HO : Hid (M.BaseOut ms lv 0) := .inr ⟨fun h => hlv ⟨by omega, h.2.2⟩, rfl⟩
    clear hlv
    gi_wp2
    have hc5 := (b4.set (.int .i64 0)).cell
    refine ⟨.int .i64 0, ?_, 0, rfl, HO.out, B1.out.setCell (by simp) _⟩
    simp [results, Try.results22, go_sem, hc5]
  rw [decide_eq_true hlv]
  gi_wp2_with fail
  refine ⟨trivial, (back_in Fence.wide _ trivial rfl a len cap w1).mono ?_⟩
  rintro e w' ⟨rfl, rfl⟩
  have hlb := World.block_lt_of_cell? w1 _ c4
  have hW0 : Below w1.heap.size w1 (w1.alloc (.cells #[.slice a len cap] 23)) := (Below.refl _ _).alloc (Nat.le_refl _) _
  have b3' := b3.alloc (.cells #[.slice a len cap] 23)
  have b4' := b4.alloc (.cells #[.slice a len cap] 23)
  have bS := Boxed.new w1 23 (.slice a len cap)
  have hBW := M.sm B1.out hW0
  have hMW := HM.out.below hBW
  have hszW : (w1.alloc (.cells #[.slice a len cap] 23)).heap.size = w1.heap.size + 1 := by simp
  have hl60 : len ≤ 1000000 := by have := HFL.out; have := HY.out.1; omega
  gi_wp2
  obtain ⟨W0, eW0⟩ : ∃ W0, w1.alloc (.cells #[.slice a len cap] 23) = W0 := ⟨_, rfl⟩
  rw [eW0] at b3' b4' bS hBW hMW hszW ⊢
  have hs1 : w1.heap.size < W0.heap.size := by omega
  clear eW0 hW0 hszW
  refine wpIn_rangeFunc_ownH rfl (by omega) (gf := 56) (lb := #[.pointer (some ⟨w1.heap.size, 0, none⟩)]) rfl trivial (enters_of Try.func56 (by kernel_rfl) rfl)
    (back_stops Fence.wide _ trivial rfl (by omega) w1.heap.size a len cap ms hl60 W0 (by omega) bS.cell hMW) belowK_t (belowK_b (Nat.le_refl _)) (Below.refl _ _) (fun _ => rfl)
    (fun pre W => ((M.NoLow lv pre ∧ Boxed W (w.heap.size + 1) 2 (.int .i64 0)) ∧ (Boxed W w.heap.size 2 (.int .i64 lv) ∧ W0.heap.size ≤ W.heap.size)) ∧ Below w.heap.size w W)
    (fun c pre W => ((c = .ret ∧ M.Hit lv pre) ∧ Boxed W (w.heap.size + 1) 2 (.int .i64 (M.lastId pre))) ∧ Below w.heap.size w W)
    (OwnFrom.and (OwnFrom.and (OwnFrom.and (ownFrom_pure _ _) (Own.from (boxed_own _ _ _) _)) (OwnFrom.and (Own.from (boxed_own _ _ _) _) (fun _ _ _ _ hs hg _ => Nat.le_trans hs hg.size))) (ownFrom_below (Nat.le_refl _) (by omega)))
    (fun c => OwnFrom.and (OwnFrom.and (ownFrom_pure _ _) (Own.from (boxed_own _ _ (fun pre => .int .i64 (M.lastId pre))) _)) (ownFrom_below (Nat.le_refl _) (by omega)))
    ⟨⟨⟨fun p hp => (by cases hp), b4'⟩, b3', Nat.le_refl _⟩, hBW⟩
    (fun x a' W => ∃ Bx, w.heap.size + 1 < Bx ∧ M.Box31 W Bx x.2 ∧ a' = { tmps := #[.slice a len cap, .int .i64 lv, undef, .pointer (some ⟨w.heap.size, 0, none⟩), .pointer (some ⟨w.heap.size + 1, 0, none⟩), undef, .pointer (some ⟨Bx, 0, none⟩), .slice a len cap, .bool true, .bool false, .bool false, .int .i64 lv, .bool true, .bool false, .bool false, .slice a len cap, .func (.func 56) #[] #[.pointer (some ⟨w1.heap.size, 0, none⟩)], .int .i64 x.1, .agg #[.int .i64 x.2.id, .int .i64 x.2.level, .int .i64 x.2.base], undef, undef, undef, undef, undef, undef], defers := [] })
    (fun x a' _ X Y row hs hg hr => by obtain ⟨Bx, e1, e2, e3⟩ := hs; exact ⟨Bx, e1, e2.kept hg (fun e => by obtain ⟨-, o, ho, hc⟩ := hr Bx e.symm; rw [show X.heap[Bx]? = _ from e2] at ho; cases ho; cases hc), e3⟩)
    ?assign ?body ?done ?stop
  case assign =>
    rintro l pre x W K ⟨⟨⟨hp, bR1⟩, bB1, hsz1⟩, hB1⟩ hK
    gi_wp2
    exact hK _ _ ((KeepsOthers.alloc _ _).from _) ((Below.refl _ W).alloc hsz1 _) ⟨⟨⟨hp, bR1.alloc _⟩, bB1.alloc _, by simp; omega⟩, hB1.alloc hB1.size _⟩ ⟨W.heap.size, bR1.lt, M.Box31.new W x.2, rfl⟩
  case body =>
    rintro l pre x a' W hl ⟨r, hr⟩ ⟨⟨⟨hp, bR1⟩, bB1, hsz1⟩, hB1⟩ ⟨Bx, hBx, bX, rfl⟩ hlt
    have cR := bR1.cell
    have fR := bR1.frozen
    have cB := bB1.cell
    obtain ⟨x0, x1, x2⟩ := bX.cells
    by_cases hx : x.2.level < lv
    · have d0 : decide (x.2.level < lv) = true := decide_eq_true hx
      have HH : Hid (M.Hit lv (pre ++ [x])) := ⟨pre, x, rfl, hp, hx⟩
      have HB2 : Hid (Boxed (W.setCell ⟨w.heap.size + 1, 0, none⟩ (.int .i64 x.2.id)) (w.heap.size + 1) 2 (.int .i64 (M.lastId (pre ++ [x])))) := by
        show Boxed _ _ _ _
        rw [M.lastId_snoc]; exact bR1.set _
      clear hx
      gi_wp2
      exact ⟨(KeepsOthers.setCell _ _ _).from _, ⟨⟨rfl, HH.out⟩, HB2.out⟩, hB1.setCell (p := ⟨w.heap.size + 1, 0, none⟩) (by simp) _⟩
    · have d0 : decide (x.2.level < lv) = false := decide_eq_false hx
      have HH : Hid (M.NoLow lv (pre ++ [x])) := hp.snoc hx
      clear hx
      gi_wp2
      exact ⟨KeepsFrom.refl _ _, Below.refl _ _, ⟨⟨HH.out, bR1⟩, bB1, hsz1⟩, hB1⟩
  case done =>
    rintro D zs W hD rfl ⟨⟨⟨hp, bR1⟩, bB1, hsz1⟩, hB1⟩ hK
    have cR := bR1.cell
    have fR := bR1.frozen
    have HE : Hid (M.BaseOut ms lv 0) := by
      have := M.base_out HY.out hlv
      rw [M.down_last ms.length (Nat.le_refl _) hp, Nat.sub_self] at this
      exact this
    gi_wp2
    have hK' := (KeepsOthers.setCell W ⟨w.heap.size + 1, 0, none⟩ (.int .i64 0)).same D _ hK rfl
    refine ⟨by simp, .inl ⟨_, _, rfl, run_takeDeferred hK', ?_⟩⟩
    have hc5 := cell_kept (bR1.set (.int .i64 0)).cell (grownBy_putObj' _ D (.deferred none)) (fun r e => by cases e; exact ⟨_, hK', rfl⟩)
    refine ⟨.int .i64 0, ?_, 0, rfl, HE.out, (hB1.setCell (p := ⟨w.heap.size + 1, 0, none⟩) (by simp) _).trans (belowK_b (w := w) (Nat.le_refl _) _ D _ _ (by omega) hK' rfl rfl)⟩
    simp [results, Try.results22, go_sem, hc5]
  case stop =>
    rintro D c pre W hD ⟨k, hk, rfl⟩ ⟨⟨⟨rfl, hq⟩, bR1⟩, hB1⟩ hK
    have HE : Hid (M.BaseOut ms lv (M.lastId (M.down ms k))) := by
      have := M.base_out HY.out hlv
      rw [M.hit_last hk hq] at this
      exact this
    gi_wp2
    refine ⟨by simp, .inl ⟨_, _, rfl, run_takeDeferred hK, ?_⟩⟩
    have hc5 := cell_kept bR1.cell (grownBy_putObj' _ D (.deferred none)) (fun r e => by cases e; exact ⟨_, hK, rfl⟩)
    refine ⟨.int .i64 (M.lastId (M.down ms k)), ?_, _, rfl, HE.out, hB1.trans (belowK_b (w := w) (Nat.le_refl _) W D _ _ (by omega) hK rfl rfl)⟩
    simp [results, Try.results22, go_sem, hc5]
theorem iBaseFor_any (w : World) (a : Option Addr) (len cap : Nat) (ms : List M.MkD) (lv : Int) (h : M.Mks w a len cap ms) :
    Calls Try.prog 22 #[.slice a len cap, .int .i64 lv] w fun e w' => ∃ v, e = .returned (.int .i64 v) ∧ M.BaseOut ms lv v ∧ Below w.heap.size w w' := callsIn_wide.1 (iBaseFor_in w a len cap ms lv h)
end Go.Proofs.Ytcpmfkmohfmaaaa
