/-
  For every text the law of DeltaRead returns true.
-/
import Derived.Test.YtephjmlcbpfnaaaGreatDoorPart23
import Derived.Test.YtephjmlcbpfnaaaGreatDoorPart24
import Derived.Test.YtephjmlcbpfnaaaGreatDoorDeltaWalks
namespace Go.Proofs.YtephjmlcbpfnaaaGreatDoor
open Go.RowKit

theorem M.hidx {p : Prop} (h : p) : Hid p := h
/-- What DeltaRead tells of whatever text. -/
def M.ReadX (s : ByteArray) (c : Int) (ss : List ByteArray) (fs : List M.FileD) : Prop := (20000 < s.size ∧ c = 2 ∧ ss = [] ∧ fs = []) ∨ (s.size ≤ 20000 ∧ M.ReadOut s c ss fs)
theorem M.ReadX.same {s : ByteArray} {c c' : Int} {ss ss' : List ByteArray} {fs fs' : List M.FileD} (h : M.ReadX s c ss fs) (h' : M.ReadX s c' ss' fs') : c = c' ∧ ss = ss' ∧ fs = fs' := by
  rcases h with ⟨h1, rfl, rfl, rfl⟩ | ⟨h1, h2⟩
  · rcases h' with ⟨_, rfl, rfl, rfl⟩ | ⟨h3, _⟩
    · exact ⟨rfl, rfl, rfl⟩
    · omega
  · rcases h' with ⟨h3, _⟩ | ⟨_, h4⟩
    · omega
    · exact h2.same h4
theorem M.ReadX.len {s : ByteArray} {c : Int} {ss : List ByteArray} {fs : List M.FileD} (h : M.ReadX s c ss fs) : ss.length ≤ 40 ∧ fs.length ≤ 40 := by
  rcases h with ⟨_, rfl, rfl, rfl⟩ | ⟨_, ⟨rfl, rfl, rfl, _⟩ | ⟨_, a, _, _, _, hd⟩⟩
  · exact ⟨by simp, by simp⟩
  · exact ⟨by simp, by simp⟩
  · exact ⟨hd.len1, hd.len2⟩
/-- A delta that is told, with a code. -/
def M.ReadIs (s : ByteArray) (e : Ending) (w' : World) : Prop :=
  ∃ (a1 a2 : Option Addr) (n1 c1 n2 c2 : Nat) (c : Int) (ss : List ByteArray) (fs : List M.FileD), e = .returned (.agg #[.slice a1 n1 c1, .slice a2 n2 c2, .int .i64 c]) ∧ M.ReadX s c ss fs ∧ M.Strs w' a1 n1 c1 ss ∧ M.Files w' a2 n2 c2 fs

theorem M.three3 {W : World} {H : Nat} {u0 u1 u2 : Value} (v0 v1 v2 : Value) (c0 : W.cell? ⟨H, 0, none⟩ = some u0) (c1 : W.cell? ⟨H, 1, none⟩ = some u1) (c2 : W.cell? ⟨H, 2, none⟩ = some u2) :
    (((W.setCell ⟨H, 0, none⟩ v0).setCell ⟨H, 1, none⟩ v1).setCell ⟨H, 2, none⟩ v2).cell? ⟨H, 0, none⟩ = some v0 ∧ (((W.setCell ⟨H, 0, none⟩ v0).setCell ⟨H, 1, none⟩ v1).setCell ⟨H, 2, none⟩ v2).cell? ⟨H, 1, none⟩ = some v1 ∧ (((W.setCell ⟨H, 0, none⟩ v0).setCell ⟨H, 1, none⟩ v1).setCell ⟨H, 2, none⟩ v2).cell? ⟨H, 2, none⟩ = some v2 := by
  have other : ∀ (W : World) (o o' : Nat) (v : Value), o ≠ o' → (W.setCell ⟨H, o, none⟩ v).cell? ⟨H, o', none⟩ = W.cell? ⟨H, o', none⟩ := fun W o o' v hne => World.cell?_setCell_other _ _ _ _ (by intro e; simp only [Addr.mk.injEq] at e; omega)
  refine ⟨?_, ?_, ?_⟩
  · rw [other _ _ _ _ (by omega), other _ _ _ _ (by omega)]; exact World.cell?_setCell_same _ _ _ c0
  · rw [other _ _ _ _ (by omega)]; exact World.cell?_setCell_same _ _ _ ((other _ _ _ _ (by omega)).trans c1)
  · exact World.cell?_setCell_same _ _ _ ((other _ _ _ _ (by omega)).trans ((other _ _ _ _ (by omega)).trans c2))
theorem M.apart3 {W : World} {H b off : Nat} {T : TypeId} {a1 a2 : Option Addr} {n1 c1 n2 c2 : Nat} {z : Int} {s : ByteArray} (hr : M.Row W H T 3) (k0 : W.cell? ⟨H, 0, none⟩ = some (.slice a1 n1 c1)) (k1 : W.cell? ⟨H, 1, none⟩ = some (.slice a2 n2 c2)) (k2 : W.cell? ⟨H, 2, none⟩ = some (.int .i64 z)) (hs : W.cell? ⟨b, off, none⟩ = some (.string s)) : b ≠ H := by
  rintro rfl
  rcases (show off = 0 ∨ off = 1 ∨ off = 2 ∨ 3 ≤ off by omega) with rfl | rfl | rfl | ho
  · rw [k0] at hs; cases hs
  · rw [k1] at hs; cases hs
  · rw [k2] at hs; cases hs
  · rw [hr.beyond ho] at hs; cases hs
theorem M.Strs.setOther {W : World} {a : Option Addr} {len cap : Nat} {ss : List ByteArray} (h : M.Strs W a len cap ss) (H j : Nat) (u : Value) (hne : ∀ b off, a = some ⟨b, off, none⟩ → 0 < len → b ≠ H) : M.Strs (W.setCell ⟨H, j, none⟩ u) a len cap ss := by
  obtain ⟨h1, h2, h3, h4⟩ := h
  refine ⟨h1, h2, h3, fun hl => ?_⟩
  obtain ⟨b, off, rfl, hf⟩ := h4 hl
  exact ⟨b, off, rfl, hf.of_block (Below.heap_setCell _ _ _ _ (hne b off rfl hl))⟩

set_option maxRecDepth 100000 in
set_option maxHeartbeats 800000 in
theorem sDRead_all (s : ByteArray) (w : World) (hs : s.size ≤ maxLen) :
    Calls Tryz.prog 15 #[.string s] w fun e w' => M.ReadIs s e w' ∧ Below w.heap.size w w' := by
  unfold maxLen at hs
  have HA : Hid (∀ o, Below w.heap.size w (w.alloc o)) := fun o => (Below.refl _ _).alloc (Nat.le_refl _) _
  by_cases hbig : 20000 < s.size
  · have d0 : decide (20000 < (s.size : Int)) = true := decide_eq_true (by omega)
    go_enter Tryz.func15, Tryz.ntmps15
    go_wp2
    refine bodyPost_ret (v := .agg #[.slice none 0 0, .slice none 0 0, .int .i64 2]) (by simp [results, Tryz.results15, go_sem]) rfl ?_
    exact ⟨⟨_, _, _, _, _, _, 2, [], [], rfl, .inl ⟨hbig, rfl, rfl, rfl⟩, M.Strs.nil _, M.files_nil _⟩, HA.out _⟩
  have d0 : decide (20000 < (s.size : Int)) = false := decide_eq_false (by omega)
  go_enter Tryz.func15, Tryz.ntmps15
  go_wp2_with fail
  refine (sL04_read s _ (by omega)).mono ?_
  rintro e w1 ⟨⟨a1, a2, n1, c1, n2, c2, v, ss, fs, rfl, hO, hS, hF⟩, hb1⟩
  have HO := M.hidx hO
  have HS := M.hidx hS
  have HF := M.hidx hF
  have B1 := M.hidx hb1
  have k0 := M.boxed hb1 0 _ rfl
  have k1 := M.boxed hb1 1 _ rfl
  have k2 := M.boxed hb1 2 _ rfl
  have kf := M.boxed_free hb1
  have hrow : M.Row w1 w.heap.size 38 3 := M.Row.of_block ⟨_, heap_alloc_new _ _, rfl⟩ (hb1.block w.heap.size (by simp))
  have hlt1 : w.heap.size < w1.heap.size := hrow.lt
  have n1' : Hid (∀ b off, a1 = some ⟨b, off, none⟩ → 0 < n1 → b ≠ w.heap.size) := fun b off ha hl => by
    obtain ⟨h1, -, -, h4⟩ := HS.out
    obtain ⟨b', off', rfl, hf⟩ := h4 hl
    cases ha
    exact M.apart3 hrow k0 k1 k2 (hf 0 (by omega))
  have n2' : Hid (∀ b off, a2 = some ⟨b, off, none⟩ → 0 < n2 → b ≠ w.heap.size) := fun b off ha hl => by
    obtain ⟨h1, -, -, h4⟩ := HF.out
    obtain ⟨b', off', rfl, hf⟩ := h4 hl
    cases ha
    exact M.apart3 hrow k0 k1 k2 (hf 0 (by omega)).1
  have f0 := kf 0
  have f1 := kf 1
  have f2 := kf 2
  have B1w : Hid (Below w.heap.size w w1) := M.boxed_below hb1
  have FB : Hid (∀ (u0 u1 u2 : Value) (o : Obj), Below w.heap.size w ((((w1.setCell ⟨w.heap.size, 0, none⟩ u0).setCell ⟨w.heap.size, 1, none⟩ u1).setCell ⟨w.heap.size, 2, none⟩ u2).alloc o) ∧ (((((w1.setCell ⟨w.heap.size, 0, none⟩ u0).setCell ⟨w.heap.size, 1, none⟩ u1).setCell ⟨w.heap.size, 2, none⟩ u2).alloc o).cell? ⟨w.heap.size, 0, none⟩ = some u0) ∧ (((((w1.setCell ⟨w.heap.size, 0, none⟩ u0).setCell ⟨w.heap.size, 1, none⟩ u1).setCell ⟨w.heap.size, 2, none⟩ u2).alloc o).cell? ⟨w.heap.size, 1, none⟩ = some u1) ∧ (((((w1.setCell ⟨w.heap.size, 0, none⟩ u0).setCell ⟨w.heap.size, 1, none⟩ u1).setCell ⟨w.heap.size, 2, none⟩ u2).alloc o).cell? ⟨w.heap.size, 2, none⟩ = some u2)) := fun u0 u1 u2 o => by
    have hB : Below w.heap.size w (((w1.setCell ⟨w.heap.size, 0, none⟩ u0).setCell ⟨w.heap.size, 1, none⟩ u1).setCell ⟨w.heap.size, 2, none⟩ u2) := ((B1w.out.setCell (Nat.le_refl _) _).setCell (Nat.le_refl _) _).setCell (Nat.le_refl _) _
    have hsz : (((w1.setCell ⟨w.heap.size, 0, none⟩ u0).setCell ⟨w.heap.size, 1, none⟩ u1).setCell ⟨w.heap.size, 2, none⟩ u2).heap.size = w1.heap.size := by simp [World.setCell]
    obtain ⟨x0, x1, x2⟩ := M.three3 u0 u1 u2 k0 k1 k2
    exact ⟨hB.alloc hB.size _, by rw [World.cell?_alloc_lt _ _ _ (by simp only; omega)]; exact x0, by rw [World.cell?_alloc_lt _ _ _ (by simp only; omega)]; exact x1, by rw [World.cell?_alloc_lt _ _ _ (by simp only; omega)]; exact x2⟩
  clear hO hS hF hb1 kf hrow
  cases v
  · obtain ⟨hB, x0, x1, x2⟩ := FB.out (.slice none 0 0) (.slice none 0 0) (.int .i64 3) (.cells #[.slice a1 n1 c1, .slice a2 n2 c2] 29)
    have HBX := M.hidx hB
    clear hB
    go_wp2
    refine bodyPost_ret (v := .agg #[.slice none 0 0, .slice none 0 0, .int .i64 3]) (by simp [results, Tryz.results15, go_sem, x0, x1, x2]) rfl ?_
    exact ⟨⟨_, _, _, _, _, _, 3, [], [], rfl, .inr ⟨by omega, .inl ⟨rfl, rfl, rfl, HO.out.2 rfl⟩⟩, M.Strs.nil _, M.files_nil _⟩, HBX.out⟩
  · obtain ⟨hB, x0, x1, x2⟩ := FB.out (.slice a1 n1 c1) (.slice a2 n2 c2) (.int .i64 0) (.cells #[.slice a1 n1 c1, .slice a2 n2 c2] 29)
    have HBX := M.hidx hB
    clear hB
    go_wp2
    refine bodyPost_ret (v := .agg #[.slice a1 n1 c1, .slice a2 n2 c2, .int .i64 0]) (by simp [results, Tryz.results15, go_sem, x0, x1, x2]) rfl ?_
    refine ⟨⟨_, _, _, _, _, _, 0, ss, fs, rfl, .inr ⟨by omega, .inr ⟨rfl, HO.out.1 rfl⟩⟩, ?_, ?_⟩, HBX.out⟩
    · exact (((HS.out.setOther _ _ _ n1'.out).setOther _ _ _ n1'.out).setOther _ _ _ n1'.out).below ((Below.refl _ _).alloc (Nat.le_refl _) _)
    · exact (((HF.out.setOther _ _ _ n2'.out).setOther _ _ _ n2'.out).setOther _ _ _ n2'.out).below ((Below.refl _ _).alloc (Nat.le_refl _) _)

/-- The answer owns its rows. -/
def M.ReadOwnX (s : ByteArray) (base : Nat) (e : Ending) (w' : World) : Prop :=
  ∃ (v1 v2 : Value) (c : Int) (ss : List ByteArray) (fs : List M.FileD), e = .returned (.agg #[v1, v2, .int .i64 c]) ∧ M.ReadX s c ss fs ∧ M.OwnS w' base v1 ss ∧ M.Own w' base 54 v2 fs
set_option maxRecDepth 100000 in
set_option maxHeartbeats 800000 in
theorem iDRead_all (s : ByteArray) (w : World) (hs : s.size ≤ maxLen) (hm : M.ml w) (hw : M.pw w) (htz : M.tz w) (hg : M.errT w) :
    Calls Tryz.prog 16 #[.string s] w fun e w' => M.ReadOwnX s w.heap.size e w' ∧ Below w.heap.size w w' := by
  by_cases hbig : 20000 < s.size
  · unfold maxLen at hs
    have d0 : decide (20000 < (s.size : Int)) = true := decide_eq_true (by omega)
    clear hm hw htz hg
    go_enter Tryz.func16, Tryz.ntmps16
    go_wp2
    refine bodyPost_ret (v := .agg #[.slice none 0 0, .slice none 0 0, .int .i64 2]) (by simp [results, Tryz.results16, go_sem]) rfl ?_
    exact ⟨⟨_, _, 2, [], [], rfl, .inl ⟨hbig, rfl, rfl, rfl⟩, M.OwnS.nil _ _, M.own_nil _ _ _⟩, (Below.refl _ _).alloc (Nat.le_refl _) _⟩
  · refine (iDRead_any s w (by omega) hm hw htz hg).mono ?_
    rintro e w' ⟨⟨v1, v2, c, ss, fs, he, hR, h1, h2⟩, hb⟩
    exact ⟨⟨v1, v2, c, ss, fs, he, .inr ⟨by omega, hR⟩, h1, h2⟩, hb⟩

/-- Rows of texts and of files never lie in one block. -/
theorem M.rows_apart {W : World} {b1 b2 : Nat} {v1 v2 : Value} {ss : List ByteArray} {fs : List M.FileD} (h1 : M.OwnS W b1 v1 ss) (h2 : M.Own W b2 54 v2 fs) : ∀ j, v1.ownBlock = some j → some j ≠ v2.ownBlock := by
  obtain ⟨-, ⟨rfl, -⟩ | ⟨g, cap, cur, rfl, -, hh, -⟩⟩ := h1
  · intro j hj; cases hj
  · obtain ⟨-, ⟨rfl, -⟩ | ⟨g', cap', cur', rfl, -, hh', -⟩⟩ := h2
    · intro j _ e; cases e
    · intro j hj e
      cases hj
      cases e
      rw [hh] at hh'
      have := Option.some.inj hh'
      simp at this
theorem M.OwnS.grown {W W' : World} {base : Nat} {v : Value} {ss : List ByteArray} {row : Option Nat} (h : M.OwnS W base v ss) (hg : W.grownBy W' row) (hne : ∀ j, v.ownBlock = some j → some j ≠ row) : M.OwnS W' base v ss := by
  obtain ⟨hl, h0 | ⟨g, cap, cur, hv, hb, hh, hr⟩⟩ := h
  · exact ⟨hl, .inl h0⟩
  · exact ⟨hl, .inr ⟨g, cap, cur, hv, hb, by rw [hg.block g (Array.getElem?_eq_some_iff.1 hh).1 (hne g (by rw [hv]; rfl))]; exact hh, hr⟩⟩
theorem M.Own.grown {W W' : World} {base : Nat} {T : TypeId} {v : Value} {fs : List M.FileD} {row : Option Nat} (h : M.Own W base T v fs) (hg : W.grownBy W' row) (hne : ∀ j, v.ownBlock = some j → some j ≠ row) : M.Own W' base T v fs := by
  obtain ⟨hl, h0 | ⟨g, cap, cur, hv, hb, hh, hr⟩⟩ := h
  · exact ⟨hl, .inl h0⟩
  · exact ⟨hl, .inr ⟨g, cap, cur, hv, hb, by rw [hg.block g (Array.getElem?_eq_some_iff.1 hh).1 (hne g (by rw [hv]; rfl))]; exact hh, hr⟩⟩

set_option maxRecDepth 100000 in
set_option maxHeartbeats 800000 in
theorem eqDeltaOut_same (w : World) (a1 a2 b1 b2 : Option Addr) (n1 c1 n2 c2 m1 d1 m2 d2 : Nat) (c : Int) (ss : List ByteArray) (fs : List M.FileD) (h1 : M.Strs w a1 n1 c1 ss) (h2 : M.Files w a2 n2 c2 fs) (k1 : M.Strs w b1 m1 d1 ss) (k2 : M.Files w b2 m2 d2 fs) :
    Calls Tryz.prog 17 #[.agg #[.slice a1 n1 c1, .slice a2 n2 c2, .int .i64 c], .agg #[.slice b1 m1 d1, .slice b2 m2 d2, .int .i64 c]] w fun e w' => e = .returned (.bool true) ∧ Below w.heap.size w w' := by
  have HB : Hid (∀ o1 o2, Below w.heap.size w ((w.alloc o1).alloc o2)) := fun o1 o2 => ((Below.refl _ _).alloc (Nat.le_refl _) _).alloc (by simp) _
  have HC : Hid (∀ o1 o2, Calls Tryz.prog 10 #[.agg #[.slice a1 n1 c1, .slice a2 n2 c2], .agg #[.slice b1 m1 d1, .slice b2 m2 d2]] ((w.alloc o1).alloc o2) fun e w' => e = .returned (.bool true) ∧ Below ((w.alloc o1).alloc o2).heap.size ((w.alloc o1).alloc o2) w') := fun o1 o2 => eqDelta_same _ a1 a2 b1 b2 n1 c1 n2 c2 m1 d1 m2 d2 ss fs (h1.below (HB.out o1 o2)) (h2.below (HB.out o1 o2)) (k1.below (HB.out o1 o2)) (k2.below (HB.out o1 o2))
  clear h1 h2 k1 k2
  have e1 : (c == c) = true := by simp
  go_enter Tryz.func17, Tryz.ntmps17
  go_wp2_with fail
  refine (HC.out _ _).mono ?_
  rintro e w1 ⟨rfl, hb1⟩
  have k2 : w1.cell? ⟨w.heap.size, 2, none⟩ = some (.int .i64 c) := by rw [hb1.cell (p := ⟨w.heap.size, 2, none⟩) (by simp; omega), World.cell?_alloc_lt _ _ _ (by simp)]; simp
  have m2 : w1.cell? ⟨w.heap.size + 1, 2, none⟩ = some (.int .i64 c) := by rw [hb1.cell (p := ⟨w.heap.size + 1, 2, none⟩) (by simp), World.cell?_alloc_at _ _ _ _ (by simp)]; rfl
  have B1 : Hid (Below w.heap.size w w1) := (HB.out _ _).trans (hb1.mono (HB.out _ _).size)
  clear hb1
  go_wp2
  go_ret
  exact ⟨rfl, B1.out⟩

theorem M.al {w : World} (o : Obj) : Below w.heap.size w (w.alloc o) := (Below.refl _ _).alloc (Nat.le_refl _) _
set_option maxRecDepth 100000 in
set_option maxHeartbeats 800000 in
theorem markDelta_any (w : World) (base : Nat) (v1 v2 : Value) (ss : List ByteArray) (fs : List M.FileD) (h1 : M.OwnS w base v1 ss) (h2 : M.Own w base 54 v2 fs) (l1 : ss.length ≤ 40) (l2 : fs.length ≤ 40) :
    Calls Tryz.prog 11 #[.agg #[v1, v2], .int .i64 1] w fun e w' => e = .returned (.int .i64 ((1 + ss.length + 5 * fs.length : Nat) : Int)) ∧ M.OwnS w' base v1 (M.mts ss.length 1) ∧ M.Own w' base 54 v2 (M.marks fs.length (1 + ss.length)) ∧ ∃ wm, w.grownBy wm v1.ownBlock ∧ wm.grownBy w' v2.ownBlock := by
  have hap := M.rows_apart h1 h2
  have HAP := M.hidx hap
  have hv1 := fun j hj => (World.ownsRow.lt h1 j hj).2
  have hv2 := fun j hj => (World.ownsRow.lt h2 j hj).2
  obtain ⟨a1, p1, rfl, -⟩ := h1.strs
  obtain ⟨a2, p2, rfl, -⟩ := h2.files
  have H1 := M.hidx (fun o => h1.below (M.al (w := w) o))
  have H2 := M.hidx (fun o => h2.below (M.al (w := w) o))
  have HV2 := M.hidx hv2
  have HV1 := M.hidx hv1
  clear h1 h2 hap hv1 hv2
  obtain ⟨K, hK⟩ : ∃ K, K = 1 + ss.length := ⟨_, rfl⟩
  rw [← hK]
  obtain ⟨KK, hKK⟩ : ∃ KK, KK = K + 5 * fs.length := ⟨_, rfl⟩
  rw [← hKK]
  have HK := M.hidx hK
  have HKK := M.hidx hKK
  have hk1 : 1 ≤ K := by omega
  have hk2 : K ≤ 1000 := by omega
  clear hK hKK
  go_enter Tryz.func11, Tryz.ntmps11
  go_wp2_with fail
  refine (markStringS_own _ base _ ss (H1.out _) (by omega)).mono ?_
  rintro e w1 ⟨rfl, ho1, hg1⟩
  rw [← HK.out]
  have O1 := M.hidx ho1
  have O2 := M.hidx ((H2.out (.cells #[.slice a1 ss.length p1, .slice a2 fs.length p2] 29)).grown hg1 (fun j hj e => HAP.out j e.symm hj.symm))
  have G1 := M.hidx hg1
  have c1 : w1.cell? ⟨w.heap.size, 1, none⟩ = some (.slice a2 fs.length p2) := hg1.cell (a := ⟨w.heap.size, 1, none⟩) (M.boxed (w := w) (T := 29) (vs := #[.slice a1 ss.length p1, .slice a2 fs.length p2]) (Below.refl _ _) 1 _ rfl) (fun e => by have := HV1.out _ e.symm; simp at this)
  clear ho1 hg1
  have K2 := M.hidx (mark_own w1 base _ fs K O2.out (by omega) hk1 hk2)
  go_wp2_with fail
  refine K2.out.mono ?_
  rintro e w2 ⟨rfl, ho2, hg2⟩
  rw [← HKK.out]
  have O3 := M.hidx ho2
  have O4 := M.hidx (O1.out.grown hg2 (fun j hj => HAP.out j hj))
  have G2 := M.hidx hg2
  clear ho2 hg2
  go_wp2
  go_ret
  exact ⟨rfl, O4.out, O3.out, w1, ((World.grownBy_alloc w _ none).but _).trans G1.out, G2.out⟩

set_option maxRecDepth 100000 in
set_option maxHeartbeats 800000 in
theorem markDeltaOut_any (w : World) (base : Nat) (v1 v2 : Value) (c : Int) (ss : List ByteArray) (fs : List M.FileD) (h1 : M.OwnS w base v1 ss) (h2 : M.Own w base 54 v2 fs) (l1 : ss.length ≤ 40) (l2 : fs.length ≤ 40) :
    Calls Tryz.prog 18 #[.agg #[v1, v2, .int .i64 c], .int .i64 1] w fun e w' => e = .returned (.int .i64 ((1 + ss.length + 5 * fs.length : Nat) : Int)) ∧ M.OwnS w' base v1 (M.mts ss.length 1) ∧ M.Own w' base 54 v2 (M.marks fs.length (1 + ss.length)) ∧ ∃ wm, w.grownBy wm v1.ownBlock ∧ wm.grownBy w' v2.ownBlock := by
  obtain ⟨a1, p1, rfl, -⟩ := h1.strs
  obtain ⟨a2, p2, rfl, -⟩ := h2.files
  have H1 := M.hidx (fun o => h1.below (M.al (w := w) o))
  have H2 := M.hidx (fun o => h2.below (M.al (w := w) o))
  clear h1 h2
  obtain ⟨KK, hKK⟩ : ∃ KK, KK = 1 + ss.length + 5 * fs.length := ⟨_, rfl⟩
  rw [← hKK]
  have HKK := M.hidx hKK
  clear hKK
  go_enter Tryz.func18, Tryz.ntmps18
  go_wp2_with fail
  refine (markDelta_any _ base _ _ ss fs (H1.out _) (H2.out _) l1 l2).mono ?_
  rintro e w1 ⟨rfl, ho1, ho2, wm, hg1, hg2⟩
  rw [← HKK.out]
  have O1 := M.hidx ho1
  have O2 := M.hidx ho2
  have G1 := M.hidx hg1
  have G2 := M.hidx hg2
  clear ho1 ho2 hg1 hg2
  go_wp2
  go_ret
  exact ⟨rfl, O1.out, O2.out, wm, ((World.grownBy_alloc w _ none).but _).trans G1.out, G2.out⟩

set_option maxRecDepth 100000 in
set_option maxHeartbeats 800000 in
theorem heldDelta_any (w : World) (base : Nat) (v1 v2 : Value) (n m : Nat) (h1 : M.OwnS w base v1 (M.mts n 1)) (h2 : M.Own w base 54 v2 (M.marks m (1 + n))) (l1 : n ≤ 40) (l2 : m ≤ 40) :
    Calls Tryz.prog 12 #[.agg #[v1, v2], .int .i64 1] w fun e w' => e = .returned (.int .i64 ((1 + n + 5 * m : Nat) : Int)) ∧ Below w.heap.size w w' := by
  obtain ⟨a1, p1, rfl, -⟩ := h1.strs
  obtain ⟨a2, p2, rfl, -⟩ := h2.files
  have H1 := M.hidx (fun o => h1.below (M.al (w := w) o))
  have H2 := M.hidx (fun o => h2.below (M.al (w := w) o))
  clear h1 h2
  rw [M.mts_len] at H1 ⊢
  rw [M.marks_len] at H2 ⊢
  obtain ⟨K, hK⟩ : ∃ K, K = 1 + n := ⟨_, rfl⟩
  rw [← hK] at H2 ⊢
  obtain ⟨KK, hKK⟩ : ∃ KK, KK = K + 5 * m := ⟨_, rfl⟩
  rw [← hKK]
  have HK := M.hidx hK
  have HKK := M.hidx hKK
  have hk1 : 1 ≤ K := by omega
  have hk2 : K ≤ 1000 := by omega
  have dK : decide ((K : Int) < 0) = false := decide_eq_false (by omega)
  have dKK : decide ((KK : Int) < 0) = false := decide_eq_false (by omega)
  clear hK hKK
  go_enter Tryz.func12, Tryz.ntmps12
  go_wp2_with fail
  refine (heldStringS_own _ base _ n (H1.out _) (by omega)).mono ?_
  rintro e w1 ⟨rfl, hb1⟩
  rw [← HK.out]
  have O2 := M.hidx ((H2.out _).below hb1)
  have c1 := M.boxed hb1 1 _ rfl
  have B1 := M.hidx (M.boxed_below hb1)
  clear hb1
  have K2 := M.hidx (held_own w1 base _ m K O2.out (by omega) hk1 hk2)
  go_wp2_with fail
  refine K2.out.mono ?_
  rintro e w2 ⟨rfl, hb2⟩
  rw [← HKK.out]
  have B2 := M.hidx (M.se B1.out hb2)
  clear hb2
  go_wp2
  go_ret
  exact ⟨rfl, B2.out⟩
set_option maxRecDepth 100000 in
set_option maxHeartbeats 800000 in
theorem heldDeltaOut_any (w : World) (base : Nat) (v1 v2 : Value) (c : Int) (n m : Nat) (h1 : M.OwnS w base v1 (M.mts n 1)) (h2 : M.Own w base 54 v2 (M.marks m (1 + n))) (l1 : n ≤ 40) (l2 : m ≤ 40) :
    Calls Tryz.prog 19 #[.agg #[v1, v2, .int .i64 c], .int .i64 1] w fun e w' => e = .returned (.int .i64 ((1 + n + 5 * m : Nat) : Int)) ∧ Below w.heap.size w w' := by
  obtain ⟨a1, p1, rfl, -⟩ := h1.strs
  obtain ⟨a2, p2, rfl, -⟩ := h2.files
  have H1 := M.hidx (fun o => heldDelta_any _ base _ _ n m (h1.below (M.al (w := w) o)) (h2.below (M.al (w := w) o)) l1 l2)
  clear h1 h2
  rw [M.mts_len] at H1 ⊢
  rw [M.marks_len] at H1 ⊢
  generalize 1 + n + 5 * m = KK at H1 ⊢
  have dKK : decide ((KK : Int) < 0) = false := decide_eq_false (by omega)
  go_enter Tryz.func19, Tryz.ntmps19
  go_wp2_with fail
  refine (H1.out _).mono ?_
  rintro e w1 ⟨rfl, hb1⟩
  have B1 := M.hidx (M.boxed_below hb1)
  clear hb1
  go_wp2
  go_ret
  exact ⟨rfl, B1.out⟩
end Go.Proofs.YtephjmlcbpfnaaaGreatDoor

/-
  For every text the law of DeltaRead returns true: the walk.
-/
namespace Go.Proofs.YtephjmlcbpfnaaaGreatDoor
open Go.RowKit

/-- An answer in a box. -/
def M.BoxD (W : World) (b : Nat) (x y z : Value) : Prop := W.heap[b]? = some (.cells #[x, y, z] 38 (0, 0))
theorem M.BoxD.lt {W : World} {b : Nat} {x y z : Value} (h : M.BoxD W b x y z) : b < W.heap.size := (Array.getElem?_eq_some_iff.1 h).1
theorem M.BoxD.cells {W : World} {b : Nat} {x y z : Value} (h : M.BoxD W b x y z) : W.cell? ⟨b, 0, none⟩ = some x ∧ W.cell? ⟨b, 1, none⟩ = some y ∧ W.cell? ⟨b, 2, none⟩ = some z := by
  unfold M.BoxD at h
  refine ⟨?_, ?_, ?_⟩ <;> simp [World.cell?, h]
theorem M.BoxD.below {W W' : World} {b : Nat} {x y z : Value} (h : M.BoxD W b x y z) (hb : Below W.heap.size W W') : M.BoxD W' b x y z := by
  unfold M.BoxD; rw [hb.block b h.lt]; exact h
theorem M.BoxD.grown {W W' : World} {b : Nat} {x y z : Value} {o : Option Nat} (h : M.BoxD W b x y z) (hg : W.grownBy W' o) (hne : some b ≠ o) : M.BoxD W' b x y z := by
  unfold M.BoxD; rw [hg.block b h.lt hne]; exact h
theorem M.BoxD.new (W : World) (x y z : Value) : M.BoxD (W.alloc (.cells #[x, y, z] 38)) W.heap.size x y z := heap_alloc_last W _

set_option maxRecDepth 100000 in
set_option maxHeartbeats 1600000 in
theorem fnExactDeltaRead_walk (t : ByteArray) (w : World) (hs : t.size ≤ maxLen) (hm : M.ml w) (hw : M.pw w) (htz : M.tz w) (hg : M.errT w) :
    Calls Tryz.prog 5 #[.string t] w fun e w' => e = .returned (.bool true) ∧ Below w.heap.size w w' := by
  have hs' := hs
  unfold maxLen at hs'
  by_cases hbig : 1048576 < t.size
  · clear hm hw htz hg
    go_enter Tryz.func5, Tryz.ntmps5
    go_wp2
    go_ret
    exact ⟨rfl, Below.refl _ _⟩
  have HS := M.hidx (fun W => sDRead_all t W hs)
  have HI : Hid (∀ W, Below w.heap.size w W → Calls Tryz.prog 16 #[.string t] W fun e w' => M.ReadOwnX t W.heap.size e w' ∧ Below W.heap.size W w') := fun W hb => iDRead_all t W hs (M.ml_below hm hb) (hw.below hb) (htz.below hb) (M.errT_below hg hb)
  clear hm hw htz hg hs hs'
  go_enter Tryz.func5, Tryz.ntmps5
  go_wp2_with fail
  refine (HS.out _).mono ?_
  rintro e w1 ⟨⟨a1, a2, n1, p1, n2, p2, c, ss, fs, rfl, hX, hS1, hF1⟩, hb1⟩
  have X := M.hidx hX
  obtain ⟨l1, l2⟩ := hX.len
  have B1a : Hid (Below w.heap.size w (w1.alloc (.cells #[.slice a1 n1 p1, .slice a2 n2 p2, .int .i64 c] 38))) := hb1.alloc hb1.size _
  have SA := M.hidx (hS1.below (M.al (w := w1) (.cells #[.slice a1 n1 p1, .slice a2 n2 p2, .int .i64 c] 38)))
  have FA := M.hidx (hF1.below (M.al (w := w1) (.cells #[.slice a1 n1 p1, .slice a2 n2 p2, .int .i64 c] 38)))
  have X0 := M.hidx (M.BoxD.new w1 (.slice a1 n1 p1) (.slice a2 n2 p2) (.int .i64 c))
  clear hX hS1 hF1 hb1 HS
  go_wp2_with fail
  refine (HI.out _ B1a.out).mono ?_
  obtain ⟨W1, hW1⟩ : ∃ W1, W1 = w1.alloc (.cells #[.slice a1 n1 p1, .slice a2 n2 p2, .int .i64 c] 38) := ⟨_, rfl⟩
  rw [← hW1] at B1a SA FA X0 ⊢
  obtain ⟨H0, hH0⟩ : ∃ H0, H0 = w1.heap.size := ⟨_, rfl⟩
  rw [← hH0] at X0 ⊢
  have HLT : Hid (H0 < W1.heap.size) := X0.out.lt
  clear hW1 hH0
  rintro e w2 ⟨⟨v1, v2, c', ss', fs', rfl, hX', ho1, ho2⟩, hb2⟩
  obtain ⟨rfl, rfl, rfl⟩ := X.out.same hX'
  obtain ⟨b1, q1, rfl, -⟩ := ho1.strs
  obtain ⟨b2, q2, rfl, -⟩ := ho2.files
  have VB1 : Hid (∀ j, (Value.slice b1 ss.length q1).ownBlock = some j → W1.heap.size ≤ j ∧ j < w2.heap.size) := fun j hj => World.ownsRow.lt ho1 j hj
  have VB2 : Hid (∀ j, (Value.slice b2 fs.length q2).ownBlock = some j → W1.heap.size ≤ j ∧ j < w2.heap.size) := fun j hj => World.ownsRow.lt ho2 j hj
  have hA2 := M.al (w := w2) (.cells #[.slice b1 ss.length q1, .slice b2 fs.length q2, .int .i64 c] 38)
  have A2 := M.hidx (hb2.trans (hA2.mono hb2.size))
  have O1 := M.hidx (ho1.below hA2)
  have O2 := M.hidx (ho2.below hA2)
  have XG := M.hidx (M.BoxD.new w2 (.slice b1 ss.length q1) (.slice b2 fs.length q2) (.int .i64 c))
  have X0' := M.hidx (X0.out.below hb2)
  obtain ⟨z0, z1, z2⟩ := X0'.out.cells
  have hH0 : H0 < w2.heap.size := X0'.out.lt
  clear hX' ho1 ho2 hb2 hA2 X0 X0'
  obtain ⟨m, hm⟩ : ∃ m, m = 1 + ss.length + 5 * fs.length := ⟨_, rfl⟩
  have HMM := M.hidx hm
  have hm2 : m ≤ 1000 := by omega
  clear hm
  have dd : ((m : Int) != (m : Int)) = false := by simp
  have dd' : ((m : Int) == (m : Int)) = true := by simp
  have dm : decide ((m : Int) < 0) = false := decide_eq_false (by omega)
  have own_S : Hid (∀ (W : World) (bs : Nat) (b : Option Addr) (q : Nat), M.OwnS W bs (.slice b ss.length q) ss → M.Strs W b ss.length q ss) := fun W bs b q h => by
    obtain ⟨a, cap, e, hS⟩ := h.strs
    cases e
    exact hS
  have own_F : Hid (∀ (W : World) (bs : Nat) (b : Option Addr) (q : Nat), M.Own W bs 54 (.slice b fs.length q) fs → M.Files W b fs.length q fs) := fun W bs b q h => by
    obtain ⟨a, cap, e, hS⟩ := h.files
    cases e
    exact hS
  go_wp2_with fail
  refine (eqDeltaOut_same _ b1 b2 a1 a2 ss.length q1 fs.length q2 n1 p1 n2 p2 c ss fs (own_S.out _ _ _ _ O1.out) (own_F.out _ _ _ _ O2.out) (SA.out.below A2.out) (FA.out.below A2.out)).mono ?_
  rintro e w3 ⟨rfl, hb3⟩
  have A3 := M.hidx (A2.out.trans (hb3.mono A2.out.size))
  have P1 := M.hidx (O1.out.below hb3)
  have P2 := M.hidx (O2.out.below hb3)
  have XG3 := M.hidx (XG.out.below hb3)
  have y0 := (hb3.cell (p := ⟨H0, 0, none⟩) (by simp; omega)).trans ((World.cell?_alloc_lt w2 _ ⟨H0, 0, none⟩ hH0).trans z0)
  have y1 := (hb3.cell (p := ⟨H0, 1, none⟩) (by simp; omega)).trans ((World.cell?_alloc_lt w2 _ ⟨H0, 1, none⟩ hH0).trans z1)
  have y2 := (hb3.cell (p := ⟨H0, 2, none⟩) (by simp; omega)).trans ((World.cell?_alloc_lt w2 _ ⟨H0, 2, none⟩ hH0).trans z2)
  have hH1 : H0 < W1.heap.size := HLT.out
  obtain ⟨x0, x1, x2⟩ := XG3.out.cells
  clear hb3 O1 O2 A2 XG z0 z1 z2
  go_wp2_with fail
  refine (markDeltaOut_any w3 _ _ _ c ss fs P1.out P2.out l1 l2).mono ?_
  rintro e w4 ⟨rfl, ho1, ho2, wm, hg1, hg2⟩
  rw [← HMM.out]
  have Q1 := M.hidx ho1
  have Q2 := M.hidx ho2
  have A4 : Hid (Below W1.heap.size W1 w4) := (A3.out.grown hg1 A3.out.size (fun j hj => (VB1.out j hj).1)).grown hg2 (A3.out.grown hg1 A3.out.size (fun j hj => (VB1.out j hj).1)).size (fun j hj => (VB2.out j hj).1)
  have XG4 := M.hidx ((XG3.out.grown hg1 (fun e => by have := (VB1.out _ e.symm).2; omega)).grown hg2 (fun e => by have := (VB2.out _ e.symm).2; omega))
  have v0 := hg2.cell (hg1.cell y0 (fun e => by have := (VB1.out _ e.symm).1; simp only at this; omega)) (fun e => by have := (VB2.out _ e.symm).1; simp only at this; omega)
  have v1 := hg2.cell (hg1.cell y1 (fun e => by have := (VB1.out _ e.symm).1; simp only at this; omega)) (fun e => by have := (VB2.out _ e.symm).1; simp only at this; omega)
  have v2 := hg2.cell (hg1.cell y2 (fun e => by have := (VB1.out _ e.symm).1; simp only at this; omega)) (fun e => by have := (VB2.out _ e.symm).1; simp only at this; omega)
  clear ho1 ho2 hg1 hg2 P1 P2 A3 XG3 x0 x1 x2 y0 y1 y2 wm
  obtain ⟨x0, x1, x2⟩ := XG4.out.cells
  go_wp2_with fail
  refine (heldDeltaOut_any w4 _ _ _ c ss.length fs.length Q1.out Q2.out l1 l2).mono ?_
  rintro e w5 ⟨rfl, hb5⟩
  rw [← HMM.out]
  have A5 := M.hidx (A4.out.trans (hb5.mono A4.out.size))
  have R1 := M.hidx (Q1.out.below hb5)
  have R2 := M.hidx (Q2.out.below hb5)
  have XG5 := M.hidx (XG4.out.below hb5)
  have u0 := (hb5.cell (p := ⟨H0, 0, none⟩) (World.block_lt_of_cell? w4 _ v0)).trans v0
  have u1 := (hb5.cell (p := ⟨H0, 1, none⟩) (World.block_lt_of_cell? w4 _ v1)).trans v1
  have u2 := (hb5.cell (p := ⟨H0, 2, none⟩) (World.block_lt_of_cell? w4 _ v2)).trans v2
  clear hb5 Q1 Q2 A4 XG4 x0 x1 x2 v0 v1 v2
  have B5 := M.hidx (B1a.out.trans (A5.out.mono B1a.out.size))
  go_wp2_with fail
  refine (HI.out _ B5.out).mono ?_
  rintro e w6 ⟨⟨v1, v2, c', ss', fs', rfl, hX', ho1, ho2⟩, hb6⟩
  obtain ⟨rfl, rfl, rfl⟩ := X.out.same hX'
  obtain ⟨d1, q3, rfl, -⟩ := ho1.strs
  obtain ⟨d2, q4, rfl, -⟩ := ho2.files
  have hA6 := M.al (w := w6) (.cells #[.slice d1 ss.length q3, .slice d2 fs.length q4, .int .i64 c] 38)
  have hb6a := hb6.trans (hA6.mono hb6.size)
  have A6 := M.hidx (A5.out.trans (hb6a.mono A5.out.size))
  have N1 := M.hidx (ho1.below hA6)
  have N2 := M.hidx (ho2.below hA6)
  have R1' := M.hidx (R1.out.below hb6a)
  have R2' := M.hidx (R2.out.below hb6a)
  have XG6 := M.hidx (XG5.out.below hb6a)
  have z0 := (hb6.cell (p := ⟨H0, 0, none⟩) (World.block_lt_of_cell? w5 _ u0)).trans u0
  have z1 := (hb6.cell (p := ⟨H0, 1, none⟩) (World.block_lt_of_cell? w5 _ u1)).trans u1
  have z2 := (hb6.cell (p := ⟨H0, 2, none⟩) (World.block_lt_of_cell? w5 _ u2)).trans u2
  have hH6 : H0 < w6.heap.size := World.block_lt_of_cell? w6 _ z0
  clear hX' ho1 ho2 hb6 hA6 hb6a R1 R2 XG5 u0 u1 u2 A5
  go_wp2_with fail
  refine (eqDeltaOut_same _ d1 d2 a1 a2 ss.length q3 fs.length q4 n1 p1 n2 p2 c ss fs (own_S.out _ _ _ _ N1.out) (own_F.out _ _ _ _ N2.out) (SA.out.below A6.out) (FA.out.below A6.out)).mono ?_
  rintro e w7 ⟨rfl, hb7⟩
  have A7 := M.hidx (A6.out.trans (hb7.mono A6.out.size))
  have T1 := M.hidx (R1'.out.below hb7)
  have T2 := M.hidx (R2'.out.below hb7)
  have XG7 := M.hidx (XG6.out.below hb7)
  obtain ⟨x0, x1, x2⟩ := XG7.out.cells
  clear hb7 N1 N2 R1' R2' XG6 z0 z1 z2 A6
  go_wp2_with fail
  refine (heldDeltaOut_any w7 _ _ _ c ss.length fs.length T1.out T2.out l1 l2).mono ?_
  rintro e w8 ⟨rfl, hb8⟩
  rw [← HMM.out]
  have A8 := M.hidx (A7.out.trans (hb8.mono A7.out.size))
  have B8 := M.hidx (B1a.out.trans (A8.out.mono B1a.out.size))
  clear hb8
  go_wp2
  go_ret
  exact ⟨rfl, B8.out⟩
end Go.Proofs.YtephjmlcbpfnaaaGreatDoor
