/-
  Draws of a list of marks.
-/
import Derived.Test.YtfkadlnfkgheaaaDrawNums
import Derived.Test.YtfkadlnfkgheaaaOwnMarks
import Derived.Test.YtfkadlnfkgheaaaSBase
import Derived.Test.YtfkadlnfkgheaaaSLevel
import Derived.Test.YtfkadlnfkgheaaaIChainBy
import Derived.Deep.RegionLaw
namespace Go.Proofs.Ytfkadlnfkgheaaa
open Go.RowKit

theorem M.three_n (w : World) (m : M.MkD) (T : TypeId) : ∀ j u, (M.mcells m)[j]? = some u → (w.alloc (.cells #[.int .i64 m.id, .int .i64 m.level, .int .i64 m.base] T)).cell? ((⟨w.heap.size, 0, none⟩ : Addr).add j) = some u := by
  intro j u hu
  rw [Addr.add_lit, Nat.zero_add, World.cell?_alloc_mark]
  simpa [M.mcells] using hu
theorem M.step_own {P : Program} {w : World} {ops : Array Oper} {o : Oper} {a : Act} {K : Act → World → Prop} {Q : Exit → Act → World → Prop} {E : Prop} (hgd : o.guard = none) (s x : Operand) (t : TypeId)
    (ho : o.op = .call { callee := .builtin .append, args := #[s, x], argTypes := #[t, t] })
    (base : Nat) (e : TypeId) (i : TypeInfo) (z : Value) (size bytes : Nat) (ht : P.underlying t = some (.slice e)) (hi : P.info? e = some i) (hz : i.zero = some z)
    (hsize : i.size = size) (hby : i.bytes = bytes) (hzs : z.cells.size = size) (hsz : 0 < size)
    (v : Value) (n : Nat) (xs : List Value) (hs : a.eval s = v) (hown : w.ownsRow base e size v n xs)
    (ad : Addr) (m c : Nat) (news : List Value) (hx : a.eval x = .slice (some ad) m c) (hl : news.length = m * size) (hnews : ∀ j u, news[j]? = some u → w.cell? (ad.add j) = some u) (h1 : ∀ u ∈ news, u.oneCell' = true)
    (h63 : n + m ≤ maxLen) (hbytes : (n + m) * bytes ≤ 140737488355328) (hbase : base ≤ w.heap.size)
    (h : ∀ v' w', w'.ownsRow base e size v' (n + m) (xs ++ news) → w.grownBy w' v.ownBlock → K (a.put o.dst v') w') :
    if Region.wanted o (yielded ops a.tmps) = true then Oper.wp P o a w K Q else E := by
  have hw : Region.wanted o (yielded ops a.tmps) = true := by simp [Region.wanted, hgd]
  rw [if_pos hw]
  exact wp_append_own w s x t ho base e i z size bytes ht hi hz hsize hby hzs hsz v n xs hs hown ad m c news hx hl hnews h1 h63 hbytes hbase fun v' w' h2 h3 _ => h v' w' h2 h3
theorem M.MksAt.rest {w : World} {b : Nat} {ms : List M.MkD} (h : M.MksAt w b 0 ms) (q : Nat) : ∀ j u, (M.cellsM (ms.drop q))[j]? = some u → w.drew.cell? ((⟨b, q * 3, none⟩ : Addr).add j) = some u := by
  have h2 : M.MksAt w b (q * 3) (ms.drop q) := fun i hi => by
    rw [List.length_drop] at hi
    obtain ⟨c0, c1, c2⟩ := h (q + i) (by omega)
    rw [Nat.zero_add, show (q + i) * 3 = q * 3 + i * 3 by omega] at c0 c1 c2
    rw [List.getElem_drop]
    exact ⟨c0, c1, c2⟩
  exact h2.src
theorem M.grown_dr (w : World) (row : Option Nat) : w.grownBy w.drew row := ⟨rfl, rfl, rfl, Nat.le_refl _, fun _ _ _ => rfl⟩
theorem M.three_at (w : World) (H : Nat) (hH : H = w.heap.size) (m : M.MkD) (T : TypeId) : ∀ j u, (M.mcells m)[j]? = some u → (w.alloc (.cells #[.int .i64 m.id, .int .i64 m.level, .int .i64 m.base] T)).cell? ((⟨H, 0, none⟩ : Addr).add j) = some u := by
  subst hH
  exact M.three_n w m T
set_option maxRecDepth 100000 in
set_option maxHeartbeats 6400000 in
theorem src_marks (w : World) (g len cap : Nat) (a : Option Addr) (h : M.Src g a len cap w) :
    Calls Try.prog 30 #[.pointer (some ⟨g, 0, none⟩)] w fun e w' => ∃ (v : Value) (ms : List M.MkD), e = .returned v ∧ ms.length ≤ 12 ∧ M.OwnK w' w.heap.size v ms ∧ M.Src g a len cap w' ∧ w.grownBy w' (some g) := by
  obtain ⟨i0, hi, hz0, hz1, hz2⟩ := info_parts Try.infoMk
  have hgw := h.lt
  have HS := M.hidm h
  clear h
  have A0 : Hid (M.OwnK (w.alloc (.cells #[] 31)) w.heap.size (.slice (some ⟨w.heap.size, 0, none⟩) 0 0) []) := M.OwnK.empty w w (Nat.le_refl _)
  go_enter Try.func30, Try.ntmps30
  go_wp2_with fail
  refine (src_n _ g len cap a 4 (HS.out.born _) (by omega)).mono ?_
  rintro e w1 ⟨n, rfl, hn0, hn1, -, hS, hg⟩
  have hn4 := hn1 (by omega)
  have HS1 := M.hidm hS
  have HG1 : Hid (w.grownBy w1 (some g)) := M.grown_trans (World.grownBy_alloc w _ (some g)) hg
  have HO1 : Hid (M.OwnK w1 w.heap.size (.slice (some ⟨w.heap.size, 0, none⟩) 0 0) []) := A0.out.grown hg (fun j hj e => by have := (World.ownsRow.lt A0.out j hj).1; have := Option.some.inj e; omega)
  clear hS hg hn1 HS A0
  go_wp2
  go_loopw [3, 5, 6] (fun v i j wr => ∃ (ms : List M.MkD) (z : Int) (k : Nat), i = .int .i64 z ∧ j = .int .i64 k ∧ k ≤ 12 ∧ ms.length = k ∧ 0 ≤ z ∧ z ≤ 3 * (k : Int) ∧ Hid (M.OwnK wr w.heap.size v ms) ∧ Hid (M.Src g a len cap wr) ∧ Hid (w.grownBy wr (some g))) (fun _ _ j _ => 12 - (intOf j).toNat)
  case atStart => exact ⟨[], 0, 0, rfl, rfl, by omega, rfl, by omega, by omega, HO1, HS1, HG1⟩
  case round =>
    obtain ⟨ms, z, k, rfl, rfl, hk, hms, hz, hz3, HO, HSr, HG⟩ := hrel
    obtain ⟨av, cv, hvv, hmk⟩ := HO.out.mks
    have HMK := M.hidm hmk
    rw [hms] at hvv
    subst hvv
    clear hmk
    go_wp2_with fail
    refine (src_n _ g len cap a 12 HSr.out (by omega)).mono ?_
    rintro e w2 ⟨q, rfl, hq0, hq1, -, hS, hg⟩
    have hq12 := hq1 (by omega)
    have HS2 := M.hidm hS
    have HG2 : Hid (w.grownBy w2 (some g)) := M.grown_trans HG.out hg
    have HO2 : Hid (M.OwnK w2 w.heap.size (.slice av k cv) ms) := HO.out.grown hg (fun j hj e => by have := (World.ownsRow.lt HO.out j hj).1; have := Option.some.inj e; omega)
    clear hS hg hq1 HSr HG HO HMK
    by_cases hlt : (k : Int) < q
    · go_wp2_with fail
      refine (src_n _ g len cap a 2 HS2.out (by omega)).mono ?_
      rintro e w3 ⟨r, rfl, hr0, hr1, -, hS, hg⟩
      have hr2 := hr1 (by omega)
      have HS3 := M.hidm hS
      have HG3 : Hid (w.grownBy w3 (some g)) := M.grown_trans HG2.out hg
      have HO3 : Hid (M.OwnK w3 w.heap.size (.slice av k cv) ms) := HO2.out.grown hg (fun j hj e => by have := (World.ownsRow.lt HO2.out j hj).1; have := Option.some.inj e; omega)
      clear hS hg hr1 HS2 HG2 HO2
      go_wp2_with fail
      refine (sLevel_any (1 + n) k w3 (by omega) (by omega) (by omega) (by omega)).mono ?_
      rintro e w' ⟨rfl, rfl⟩
      generalize M.level (1 + n) (k : Int) = lv
      have hown3 := HO3.out
      unfold M.OwnK at hown3
      rw [hms] at hown3
      by_cases hlv : 0 < lv
      · have dlv : decide (0 < lv) = true := decide_eq_true hlv
        have hA : Below w3.heap.size w3 (w3.alloc (.cells #[.int .i64 (z + 1 + r), .int .i64 lv, .int .i64 0] 31)) := (Below.refl _ _).alloc (Nat.le_refl _) _
        have HMK : Hid (M.Mks (w3.alloc (.cells #[.int .i64 (z + 1 + r), .int .i64 lv, .int .i64 0] 31)) av k cv ms) := by
          obtain ⟨a', c', e1, e2⟩ := (HO3.out.below hA).mks
          rw [hms] at e1 e2
          cases e1
          exact e2
        clear hlv
        go_wp2_with fail
        refine (sBaseFor_any _ av k cv ms lv HMK.out).mono ?_
        rintro e w4 ⟨bs, rfl, -, hb4⟩
        obtain ⟨x0, x1, x2, xf⟩ := M.MkBox.new (m := ⟨z + 1 + r, lv, 0⟩) hb4
        obtain ⟨y0, y1, y2⟩ : (w4.setCell ⟨w3.heap.size, 2, none⟩ (.int .i64 bs)).cell? ⟨w3.heap.size, 0, none⟩ = some (.int .i64 (z + 1 + r)) ∧ (w4.setCell ⟨w3.heap.size, 2, none⟩ (.int .i64 bs)).cell? ⟨w3.heap.size, 1, none⟩ = some (.int .i64 lv) ∧ (w4.setCell ⟨w3.heap.size, 2, none⟩ (.int .i64 bs)).cell? ⟨w3.heap.size, 2, none⟩ = some (.int .i64 bs) :=
          ⟨by rw [World.cell?_setCell_other _ _ _ _ (by simp)]; exact x0, by rw [World.cell?_setCell_other _ _ _ _ (by simp)]; exact x1, World.cell?_setCell_same _ _ _ x2⟩
        have hB4 : Below w3.heap.size w3 (w4.setCell ⟨w3.heap.size, 2, none⟩ (.int .i64 bs)) := (M.sm hA hb4).setCell (by simp) _
        have hown : (w4.setCell ⟨w3.heap.size, 2, none⟩ (.int .i64 bs)).ownsRow w.heap.size 31 3 (.slice av k cv) k (M.cellsM ms) := by have := HO3.out.below hB4; unfold M.OwnK at this; rw [hms] at this; exact this
        have HSB := M.hidm (HS3.out.below hB4)
        have HGB := M.hidm (M.gb HG3.out hB4)
        have xf2 := xf 2
        clear hb4 hA hB4 HMK HS3 HG3 HO3 hown3 xf
        go_wp2_with (at_builtin; refine wpList_append_own _ rfl (.tmp 37) (.tmp 39) 23 rfl w.heap.size 31 i0 (.agg #[.int .i64 0, .int .i64 0, .int .i64 0]) 3 24 Try.underlying23 hi hz0 hz1 hz2 rfl (by decide) _ _ _ rfl (World.ownsRow.alloc hown _) ⟨w4.heap.size, 0, none⟩ 1 1 (M.mcells ⟨z + 1 + r, lv, bs⟩) rfl rfl (M.three_at _ _ (by simp) ⟨z + 1 + r, lv, _⟩ _) ?c2 ?c3 ?c4 ?c5 ?_)
        case c2 => exact fun u hu => M.oneCellM [⟨z + 1 + r, lv, bs⟩] u (by simpa [M.cellsM] using hu)
        case c3 => unfold maxLen; omega
        case c4 => omega
        case c5 => have := HGB.out.size; simp at this ⊢; omega
        intro v' w6 hown' hgrow _
        rw [← hms] at hown'
        have HO6 : Hid (M.OwnK w6 w.heap.size v' (ms ++ [⟨z + 1 + r, lv, bs⟩])) := M.OwnK.more hown'
        have hgall : (w4.setCell ⟨w3.heap.size, 2, none⟩ (.int .i64 bs)).grownBy w6 _ := ((World.grownBy_alloc (w4.setCell ⟨w3.heap.size, 2, none⟩ (.int .i64 bs)) _ none).but _).trans hgrow
        have HS6 : Hid (M.Src g a len cap w6) := HSB.out.kept hgall (fun j hj => by have := (World.ownsRow.lt hown j hj).1; omega)
        have HG6 : Hid (w.grownBy w6 (some g)) := M.gown HGB.out hgall (fun j hj => (World.ownsRow.lt hown j hj).1)
        have hl6 : (ms ++ [(⟨z + 1 + r, lv, bs⟩ : M.MkD)]).length = k + 1 := by simp [hms]
        clear hown' hgrow hgall hown
        go_wp2
        go_roundw
        case rel => exact ⟨_, z + 1 + r, k + 1, by go_num, by go_num, by omega, hl6, by omega, by omega, HO6, HS6, HG6⟩
        case measure => simp [intOf]; omega
      · have dlv : decide (0 < lv) = false := decide_eq_false hlv
        have hA : Below w3.heap.size w3 (w3.alloc (.cells #[.int .i64 (z + 1 + r), .int .i64 lv, .int .i64 0] 31)) := (Below.refl _ _).alloc (Nat.le_refl _) _
        have hown := World.ownsRow.alloc hown3 (.cells #[.int .i64 (z + 1 + r), .int .i64 lv, .int .i64 0] 31)
        have HSB := M.hidm (HS3.out.below hA)
        have HGB := M.hidm (M.gb HG3.out hA)
        clear hA HS3 HG3 HO3 hown3 hlv
        go_wp2_with (at_builtin; refine wpList_append_own _ rfl (.tmp 37) (.tmp 39) 23 rfl w.heap.size 31 i0 (.agg #[.int .i64 0, .int .i64 0, .int .i64 0]) 3 24 Try.underlying23 hi hz0 hz1 hz2 rfl (by decide) _ _ _ rfl (World.ownsRow.alloc hown _) ⟨w3.heap.size + 1, 0, none⟩ 1 1 (M.mcells ⟨z + 1 + r, lv, 0⟩) rfl rfl (M.three_at _ _ (by simp) ⟨z + 1 + r, lv, _⟩ _) ?c2 ?c3 ?c4 ?c5 ?_)
        case c2 => exact fun u hu => M.oneCellM [⟨z + 1 + r, lv, 0⟩] u (by simpa [M.cellsM] using hu)
        case c3 => unfold maxLen; omega
        case c4 => omega
        case c5 => have := HGB.out.size; simp at this ⊢; omega
        intro v' w6 hown' hgrow _
        rw [← hms] at hown'
        have HO6 : Hid (M.OwnK w6 w.heap.size v' (ms ++ [⟨z + 1 + r, lv, 0⟩])) := M.OwnK.more hown'
        have hgall : (w3.alloc (.cells #[.int .i64 (z + 1 + r), .int .i64 lv, .int .i64 0] 31)).grownBy w6 _ := ((World.grownBy_alloc (w3.alloc (.cells #[.int .i64 (z + 1 + r), .int .i64 lv, .int .i64 0] 31)) _ none).but _).trans hgrow
        have HS6 : Hid (M.Src g a len cap w6) := HSB.out.kept hgall (fun j hj => by have := (World.ownsRow.lt hown j hj).1; omega)
        have HG6 : Hid (w.grownBy w6 (some g)) := M.gown HGB.out hgall (fun j hj => (World.ownsRow.lt hown j hj).1)
        have hl6 : (ms ++ [(⟨z + 1 + r, lv, 0⟩ : M.MkD)]).length = k + 1 := by simp [hms]
        clear hown' hgrow hgall hown
        go_wp2
        go_roundw
        case rel => exact ⟨_, z + 1 + r, k + 1, by go_num, by go_num, by omega, hl6, by omega, by omega, HO6, HS6, HG6⟩
        case measure => simp [intOf]; omega
    · have dq : decide ((k : Int) < q) = false := decide_eq_false hlt
      go_wp2_with fail
      refine (src_one _ g len cap a 12 HS2.out (by omega)).mono ?_
      rintro e w3 ⟨v, rfl, hS, hg⟩
      have HS3 := M.hidm hS
      have HG3 : Hid (w.grownBy w3 (some g)) := M.grown_trans HG2.out hg
      have HO3 : Hid (M.OwnK w3 w.heap.size (.slice av k cv) ms) := HO2.out.grown hg (fun j hj e => by have := (World.ownsRow.lt HO2.out j hj).1; have := Option.some.inj e; omega)
      clear hS hg HS2 HG2 HO2
      cases v
      · go_wp2
        go_ret
        exact ⟨_, ms, rfl, by omega, HO3.out, HS3.out, HG3.out⟩
      by_cases h0 : 0 < k
      case neg =>
        have d1 : decide (0 < (k : Int)) = false := decide_eq_false (by omega)
        have d2 : decide (0 < k) = false := decide_eq_false h0
        go_wp2
        go_ret
        exact ⟨_, ms, rfl, by omega, HO3.out, HS3.out, HG3.out⟩
      have d1 : decide (0 < (k : Int)) = true := decide_eq_true (by omega)
      go_wp2_with fail
      refine (src_n _ g len cap a k HS3.out (by omega)).mono ?_
      rintro e w4 ⟨p, rfl, hp0, hp1, hp2, hS, hg⟩
      obtain ⟨p, rfl⟩ := Int.eq_ofNat_of_zero_le hp0
      have hpk : p < k := by
        by_cases h1 : 1 < (k : Int)
        · have := hp1 h1; omega
        · have := hp2 (by omega); omega
      have HS4 := M.hidm hS
      have HG4 : Hid (w.grownBy w4 (some g)) := M.grown_trans HG3.out hg
      have HO4 : Hid (M.OwnK w4 w.heap.size (.slice av k cv) ms) := HO3.out.grown hg (fun j hj e => by have := (World.ownsRow.lt HO3.out j hj).1; have := Option.some.inj e; omega)
      clear hS hg HS3 HG3 HO3 hp0 hp1 hp2
      go_wp2_with fail
      refine (src_n _ g len cap a 4 HS4.out (by omega)).mono ?_
      rintro e w5 ⟨y, rfl, hy0, hy1, -, hS, hg⟩
      have hy4 := hy1 (by omega)
      have HS5 := M.hidm hS
      have HG5 : Hid (w.grownBy w5 (some g)) := M.grown_trans HG4.out hg
      have HO5 : Hid (M.OwnK w5 w.heap.size (.slice av k cv) ms) := HO4.out.grown hg (fun j hj e => by have := (World.ownsRow.lt HO4.out j hj).1; have := Option.some.inj e; omega)
      clear hS hg HS4 HG4 HO4 hy1
      rcases (show y = 0 ∨ y = 1 ∨ y = 2 ∨ y = 3 by omega) with rfl | rfl | rfl | rfl
      · obtain ⟨gk, hgk, hbk, hlk, hfk, -⟩ := HO5.out.set p 2 hpk (by omega) 0
        have HO5' := HO5
        subst hgk
        have hgg : gk ≠ g := by omega
        obtain ⟨-, -, -, hfa⟩ : M.Mks w5 (some ⟨gk, 0, none⟩) k cv ms := by
          obtain ⟨a', c', e1, e2⟩ := HO5.out.mks
          rw [hms] at e1 e2
          cases e1
          exact e2
        go_wp2_with fail
        refine (src_n _ g len cap a 6 HS5.out (by omega)).mono ?_
        rintro e w6 ⟨x, rfl, hx0, hx1, -, hS, hg⟩
        have hx9 := hx1 (by omega)
        have HS6 := M.hidm hS
        have HG6 : Hid (w.grownBy w6 (some g)) := M.grown_trans HG5.out hg
        have HO6 : Hid (M.OwnK w6 w.heap.size (.slice (some ⟨gk, 0, none⟩) k cv) ms) := HO5.out.grown hg (fun j hj e => by have := (World.ownsRow.lt HO5.out j hj).1; have := Option.some.inj e; omega)
        obtain ⟨gk', hgk', -, hlk6, hfk6, ns, hns, hO7⟩ := HO6.out.set p 2 hpk (by omega) (x)
        cases hgk'
        have HO7 := M.hidm hO7
        obtain ⟨-, -, -, hfa6⟩ : M.Mks w6 (some ⟨gk, 0, none⟩) k cv ms := by
          obtain ⟨a', c', e1, e2⟩ := HO6.out.mks
          rw [hms] at e1 e2
          cases e1
          exact e2
        obtain ⟨b6, off6, e6, hat6⟩ := hfa6 (by omega)
        cases e6
        obtain ⟨t0, t1, t2⟩ := hat6 p (by omega)
        rw [Nat.zero_add] at t0 t1 t2
        have f6 := hfk6 (p * 3 + 2)
        have hgs : w6.grownBy (w6.setCell ⟨gk, p * 3 + 2, none⟩ (.int .i64 (x))) (some gk) := M.grownS (World.grownBy.refl _ _) _ _
        have HS7 := M.hidm (HS6.out.kept hgs (fun j hj => by have := Option.some.inj hj; omega))
        have HG7 := M.hidm (M.gown HG6.out hgs (fun j hj => by have := Option.some.inj hj; omega))
        clear hS hg hx1 hO7 hgs hat6 hfa6 hfa hfk hfk6 HS6 HG6 HO6 HO5'
        go_wp2
        go_ret
        exact ⟨_, ns, rfl, by omega, HO7.out, HS7.out, HG7.out⟩
      · obtain ⟨gk, hgk, hbk, hlk, hfk, -⟩ := HO5.out.set p 1 hpk (by omega) 0
        have HO5' := HO5
        subst hgk
        have hgg : gk ≠ g := by omega
        obtain ⟨-, -, -, hfa⟩ : M.Mks w5 (some ⟨gk, 0, none⟩) k cv ms := by
          obtain ⟨a', c', e1, e2⟩ := HO5.out.mks
          rw [hms] at e1 e2
          cases e1
          exact e2
        go_wp2_with fail
        refine (src_n _ g len cap a 8 HS5.out (by omega)).mono ?_
        rintro e w6 ⟨x, rfl, hx0, hx1, -, hS, hg⟩
        have hx9 := hx1 (by omega)
        have HS6 := M.hidm hS
        have HG6 : Hid (w.grownBy w6 (some g)) := M.grown_trans HG5.out hg
        have HO6 : Hid (M.OwnK w6 w.heap.size (.slice (some ⟨gk, 0, none⟩) k cv) ms) := HO5.out.grown hg (fun j hj e => by have := (World.ownsRow.lt HO5.out j hj).1; have := Option.some.inj e; omega)
        obtain ⟨gk', hgk', -, hlk6, hfk6, ns, hns, hO7⟩ := HO6.out.set p 1 hpk (by omega) (x - 1)
        cases hgk'
        have HO7 := M.hidm hO7
        obtain ⟨-, -, -, hfa6⟩ : M.Mks w6 (some ⟨gk, 0, none⟩) k cv ms := by
          obtain ⟨a', c', e1, e2⟩ := HO6.out.mks
          rw [hms] at e1 e2
          cases e1
          exact e2
        obtain ⟨b6, off6, e6, hat6⟩ := hfa6 (by omega)
        cases e6
        obtain ⟨t0, t1, t2⟩ := hat6 p (by omega)
        rw [Nat.zero_add] at t0 t1 t2
        have f6 := hfk6 (p * 3 + 1)
        have hgs : w6.grownBy (w6.setCell ⟨gk, p * 3 + 1, none⟩ (.int .i64 (x - 1))) (some gk) := M.grownS (World.grownBy.refl _ _) _ _
        have HS7 := M.hidm (HS6.out.kept hgs (fun j hj => by have := Option.some.inj hj; omega))
        have HG7 := M.hidm (M.gown HG6.out hgs (fun j hj => by have := Option.some.inj hj; omega))
        clear hS hg hx1 hO7 hgs hat6 hfa6 hfa hfk hfk6 HS6 HG6 HO6 HO5'
        go_wp2
        go_ret
        exact ⟨_, ns, rfl, by omega, HO7.out, HS7.out, HG7.out⟩
      · obtain ⟨gk, hgk, hbk, hlk, hfk, -⟩ := HO5.out.set p 0 hpk (by omega) 0
        have HO5' := HO5
        subst hgk
        have hgg : gk ≠ g := by omega
        obtain ⟨-, -, -, hfa⟩ : M.Mks w5 (some ⟨gk, 0, none⟩) k cv ms := by
          obtain ⟨a', c', e1, e2⟩ := HO5.out.mks
          rw [hms] at e1 e2
          cases e1
          exact e2
        go_wp2_with fail
        refine (src_n _ g len cap a 20 HS5.out (by omega)).mono ?_
        rintro e w6 ⟨x, rfl, hx0, hx1, -, hS, hg⟩
        have hx9 := hx1 (by omega)
        have HS6 := M.hidm hS
        have HG6 : Hid (w.grownBy w6 (some g)) := M.grown_trans HG5.out hg
        have HO6 : Hid (M.OwnK w6 w.heap.size (.slice (some ⟨gk, 0, none⟩) k cv) ms) := HO5.out.grown hg (fun j hj e => by have := (World.ownsRow.lt HO5.out j hj).1; have := Option.some.inj e; omega)
        obtain ⟨gk', hgk', -, hlk6, hfk6, ns, hns, hO7⟩ := HO6.out.set p 0 hpk (by omega) (x)
        cases hgk'
        rw [Nat.add_zero] at hO7
        have HO7 := M.hidm hO7
        obtain ⟨-, -, -, hfa6⟩ : M.Mks w6 (some ⟨gk, 0, none⟩) k cv ms := by
          obtain ⟨a', c', e1, e2⟩ := HO6.out.mks
          rw [hms] at e1 e2
          cases e1
          exact e2
        obtain ⟨b6, off6, e6, hat6⟩ := hfa6 (by omega)
        cases e6
        obtain ⟨t0, t1, t2⟩ := hat6 p (by omega)
        rw [Nat.zero_add] at t0 t1 t2
        have f6 := hfk6 (p * 3)
        have hgs : w6.grownBy (w6.setCell ⟨gk, p * 3, none⟩ (.int .i64 (x))) (some gk) := M.grownS (World.grownBy.refl _ _) _ _
        have HS7 := M.hidm (HS6.out.kept hgs (fun j hj => by have := Option.some.inj hj; omega))
        have HG7 := M.hidm (M.gown HG6.out hgs (fun j hj => by have := Option.some.inj hj; omega))
        clear hS hg hx1 hO7 hgs hat6 hfa6 hfa hfk hfk6 HS6 HG6 HO6 HO5'
        go_wp2
        go_ret
        exact ⟨_, ns, rfl, by omega, HO7.out, HS7.out, HG7.out⟩
      · obtain ⟨gk, hgk, hbk, hlk, hfk, -⟩ := HO5.out.set p 0 hpk (by omega) 0
        subst hgk
        have hgg : gk ≠ g := by omega
        have hMs : M.Mks w5 (some ⟨gk, 0, none⟩) k cv ms := by
          obtain ⟨a', c', e1, e2⟩ := HO5.out.mks
          rw [hms] at e1 e2
          cases e1
          exact e2
        obtain ⟨-, hkc, hcm, hfa⟩ := hMs
        obtain ⟨b6, off6, e6, hat6⟩ := hfa (by omega)
        cases e6
        have hpre := HO5.out.pre p hpk
        have hpc : p ≤ cv := by omega
        have hpc1 : p + 1 ≤ cv := by omega
        have hpk1 : p + 1 ≤ k := by omega
        have HAT := M.hidm hat6
        have hwr : IntKind.i64.wrap ((p : Int) + 1) = ((p + 1 : Nat) : Int) := by rw [IntKind.wrap_i64]; omega
        have HNIL : Hid (k = p + 1 → ∀ j u, (M.cellsM (ms.drop (p + 1)))[j]? = some u → w5.drew.cell? ((⟨gk, 0, none⟩ : Addr).add j) = some u) := fun e j u hu => by
          rw [List.drop_eq_nil_of_le (by omega)] at hu
          simp [M.cellsM] at hu
        clear hfa hfk hat6
        have hI1 : (0 : Int) ≤ (p : Int) + 1 := by omega
        have hI2 : (p : Int) + 1 ≤ (k : Int) := by omega
        have hI3 : (p : Int) ≤ (p : Int) + 1 := by omega
        by_cases hcv : cv = p + 1
        · have hkp : k = p + 1 := by omega
          have HN := M.hidm (HNIL.out hkp)
          clear HNIL
          subst hcv
          subst hkp
          go_wp2_with fail
          go_region_law (refine M.step_own rfl (.tmp 56) (.tmp 60) 23 rfl w.heap.size 31 i0 (.agg #[.int .i64 0, .int .i64 0, .int .i64 0]) 3 24 Try.underlying23 hi hz0 hz1 hz2 rfl (by decide) (.slice (some ⟨gk, 0, none⟩) p (p + 1)) p (M.cellsM (ms.take p)) (by simp [Act.eval, Act.put]) (hpre) ⟨gk, 0, none⟩ 0 0 (M.cellsM (ms.drop (p + 1))) (by first | rfl | simp [Act.eval, Act.put]) (by rw [M.cellsM_len, List.length_drop]; omega) (HN.out) (M.oneCellM _) (by unfold maxLen; omega) (by omega) (by simp; omega) ?_; intro v' w6 hown' hgrow)
          all_goals
            have HO6 : Hid (M.OwnK w6 w.heap.size v' (ms.take p ++ ms.drop (p + 1))) := by
              show M.OwnK _ _ _ _
              unfold M.OwnK
              rw [M.cellsM_app, List.length_append, List.length_take, List.length_drop, Nat.min_eq_left (by omega), hms]
              rw [Nat.sub_self]
              exact hown'
            have hgd : w5.grownBy w6 _ := (M.grown_dr w5 _).trans hgrow
            have HS6 : Hid (M.Src g a len cap w6) := HS5.out.kept hgd (fun j hj => by have := (World.ownsRow.lt hpre j hj).1; omega)
            have HG6 : Hid (w.grownBy w6 (some g)) := M.gown HG5.out hgd (fun j hj => (World.ownsRow.lt hpre j hj).1)
            have hl6 : (ms.take p ++ ms.drop (p + 1)).length ≤ 12 := by rw [List.length_append, List.length_take, List.length_drop]; omega
            clear hown' hgrow hgd
            go_wp2
            go_ret
            exact ⟨_, _, rfl, hl6, HO6.out, HS6.out, HG6.out⟩
        · go_wp2_with fail
          go_region_law (refine M.step_own rfl (.tmp 56) (.tmp 60) 23 rfl w.heap.size 31 i0 (.agg #[.int .i64 0, .int .i64 0, .int .i64 0]) 3 24 Try.underlying23 hi hz0 hz1 hz2 rfl (by decide) (.slice (some ⟨gk, 0, none⟩) p cv) p (M.cellsM (ms.take p)) (by simp [Act.eval, Act.put]) (hpre) ⟨gk, (p + 1) * 3, none⟩ (k - (p + 1)) (cv - (p + 1)) (M.cellsM (ms.drop (p + 1))) (by first | rfl | simp [Act.eval, Act.put, hcv]) (by rw [M.cellsM_len, List.length_drop]; omega) (HAT.out.rest (p + 1)) (M.oneCellM _) (by unfold maxLen; omega) (by omega) (by simp; omega) ?_; intro v' w6 hown' hgrow)
          all_goals
            have HO6 : Hid (M.OwnK w6 w.heap.size v' (ms.take p ++ ms.drop (p + 1))) := by
              show M.OwnK _ _ _ _
              unfold M.OwnK
              rw [M.cellsM_app, List.length_append, List.length_take, List.length_drop, Nat.min_eq_left (by omega), hms]
              exact hown'
            have hgd : w5.grownBy w6 _ := (M.grown_dr w5 _).trans hgrow
            have HS6 : Hid (M.Src g a len cap w6) := HS5.out.kept hgd (fun j hj => by have := (World.ownsRow.lt hpre j hj).1; omega)
            have HG6 : Hid (w.grownBy w6 (some g)) := M.gown HG5.out hgd (fun j hj => (World.ownsRow.lt hpre j hj).1)
            have hl6 : (ms.take p ++ ms.drop (p + 1)).length ≤ 12 := by rw [List.length_append, List.length_take, List.length_drop]; omega
            clear hown' hgrow hgd
            go_wp2
            go_ret
            exact ⟨_, _, rfl, hl6, HO6.out, HS6.out, HG6.out⟩
end Go.Proofs.Ytfkadlnfkgheaaa
