/-
  What eachTape of the program does with copied and with synced.
-/
import Derived.Test.YtappficbjjkmiaaPart7
import Derived.Test.YtappficbjjkmiaaTapeMarks
import Derived.Laws.AppendOwnNone
namespace Go.Proofs.Ytappficbjjkmiaa
open Go.RowKit

/-- A tape with all of its blocks synced. -/
def M.tsync (t : M.TapeD) : M.TapeD := ⟨t.lab, t.ss, (t.ss.length : Int), t.room⟩
theorem M.four_t (w : World) (x y z : Int) (v : Value) (T : TypeId) (t : M.TapeD) (h : t.lab = x ∧ t.syn = y ∧ t.room = z) : ∀ j u, (M.tcells (t, v))[j]? = some u → (w.alloc (.cells #[.int .i64 x, v, .int .i64 y, .int .i64 z] T)).cell? ((⟨w.heap.size, 0, none⟩ : Addr).add j) = some u := by
  obtain ⟨rfl, rfl, rfl⟩ := h
  intro j u hu
  rw [Addr.add_lit, Nat.zero_add, World.cell?_alloc_mark]
  simpa [M.tcells] using hu
theorem M.OwnT.more {w w' : World} {lo hi hi' : Nat} {v v' : Value} {qs : List (M.TapeD × Value)} {q : M.TapeD × Value} (h : M.OwnT w lo hi v qs) (hown : w'.ownsRow lo 36 4 v' (qs.length + 1) (M.cellsT qs ++ M.tcells q)) (hg : w.grownBy w' v.ownBlock) (ho : M.OwnS w lo q.2 q.1.ss) (hq : ∀ g, q.2.ownBlock = some g → hi ≤ g) (hz : w'.heap.size ≤ hi') : M.OwnT w' lo hi' v' (qs ++ [q]) := by
  have tr : ∀ p : M.TapeD × Value, M.OwnS w lo p.2 p.1.ss → M.OwnS w' lo p.2 p.1.ss := fun p hp => hp.but hg (fun j hj e => by
    obtain ⟨-, h0 | ⟨g, cap, cur, rfl, -, hgh, -⟩⟩ := h.row
    · rw [h0.1] at e; cases e
    · obtain rfl := Option.some.inj e
      obtain ⟨-, h1 | ⟨g', cap', cur', e', -, hh', -⟩⟩ := hp
      · rw [h1.1] at hj; cases hj
      · rw [e'] at hj
        have := Option.some.inj hj
        simp only at this
        rw [this, hgh] at hh'
        have := Option.some.inj hh'
        simp at this)
  have each : ∀ p ∈ qs ++ [q], M.OwnS w' lo p.2 p.1.ss := fun p hp => by
    rcases List.mem_append.1 hp with h1 | h1
    · exact tr p (h.each p h1).1
    · obtain rfl := List.mem_singleton.1 h1
      exact tr p ho
  refine ⟨?_, fun g hgv => Nat.lt_of_lt_of_le (World.ownsRow.lt hown g hgv).2 hz, fun p hp => ⟨each p hp, fun g hgp => Nat.lt_of_lt_of_le (World.ownsRow.lt (each p hp) g hgp).2 hz⟩, M.apart_snoc h.apart (fun p hp g hgp e => by have h1 := (h.each p hp).2 g hgp; have h2 := hq g e; omega)⟩
  rw [List.length_append, M.cellsT_app, M.cellsT_one]
  exact hown
theorem M.OwnT.lenN {w : World} {lo hi n : Nat} {v : Value} {qs : List (M.TapeD × Value)} (h : M.OwnT w lo hi v qs) (hn : qs.length = n) : ∃ a c, v = .slice a n c := by
  subst hn
  exact h.len

set_option maxRecDepth 100000 in
set_option maxHeartbeats 3200000 in
theorem iEachC_any (w : World) (a : Option Addr) (n c : Nat) (ts : List M.TapeD) (h : M.Tps w a n c ts) (hok : ∀ t ∈ ts, ∀ s ∈ t.ss, s.size ≤ 100000000) (hl : n + M.tln ts ≤ 1048576) :
    Calls Try.prog 49 #[.slice a n c, .func (.func 50) #[] #[]] w fun e w' => ∃ (v : Value) (qs : List (M.TapeD × Value)), e = .returned v ∧ qs.map Prod.fst = ts ∧ M.OwnT w' w.heap.size w'.heap.size v qs ∧ Below w.heap.size w w' := by
  obtain ⟨i0, hi, hz0, hz1, hz2⟩ := info_parts Try.infoTp
  have HF := M.hl h
  have HOK := M.hl hok
  have HN : Hid (n = ts.length) := h.1
  clear h hok
  go_enter Try.func49, Try.ntmps49
  go_wp2
  go_loopw [5, 10] (fun v i wr => ∃ (k : Nat) (qs : List (M.TapeD × Value)), i = .int .i64 k ∧ k ≤ n ∧ Hid (qs.map Prod.fst = ts.take k) ∧ Hid (M.OwnT wr w.heap.size wr.heap.size v qs) ∧ Hid (Below w.heap.size w wr)) (fun _ i _ => n - (intOf i).toNat)
  case atStart => exact ⟨0, [], rfl, Nat.zero_le _, rfl, M.OwnT.nil _ _ _, Below.refl _ _⟩
  case round =>
    obtain ⟨k, qs, rfl, hk, HM, HO, HBr⟩ := hrel
    have hql : qs.length = k := by
      have := congrArg List.length HM.out
      simp only [List.length_map, List.length_take] at this
      rw [← HN.out] at this
      omega
    have HQL := M.hl hql
    by_cases hlt : k < n
    · obtain ⟨b, off, t, rfl, hfk, hat⟩ := (HF.out.below HBr.out).at hlt
      have HFK := M.hl hfk
      have ho := HOK.out t (List.mem_of_getElem? hfk)
      have htl := M.tln_take hfk
      have hn1 : t.ss.length ≤ 1048576 := by
        have h2 : M.tln ts = M.tln (ts.take (k + 1)) + M.tln (ts.drop (k + 1)) := by rw [← M.tln_app, List.take_append_drop]
        omega
      obtain ⟨x, ss, y, z⟩ := t
      obtain ⟨c0, ⟨a', n', c', c1, hs, -⟩, c2, c3⟩ := hat
      simp only at c0 c1 c2 c3 hs ho hn1
      have hsz := HBr.out.size
      obtain ⟨va, vc, rfl⟩ := HO.out.lenN hql
      have BX : Hid (∀ o, Below wr.heap.size wr (wr.alloc o)) := fun o => (Below.refl _ _).alloc (Nat.le_refl _) _
      have CT : Hid (∀ o, Calls Try.prog 50 #[.agg #[.int .i64 x, .slice a' n' c', .int .i64 y, .int .i64 z]] (wr.alloc o) fun e w' => ∃ u, e = .returned (.agg #[.int .i64 x, u, .int .i64 y, .int .i64 z]) ∧ M.OwnS w' (wr.heap.size + 1) u ss ∧ Below (wr.alloc o).heap.size (wr.alloc o) w') := fun o => by
        have := iCopied_any (wr.alloc o) a' n' c' ss x y z (hs.below (BX.out o)) ho (by rw [hs.1]; exact hn1)
        simpa using this
      clear hs hfk ho htl hn1 hql
      go_wp2_with fail
      refine (CT.out _).mono ?_
      rintro e w5 ⟨u, rfl, hOu, hb5⟩
      obtain ⟨ua, uc, rfl⟩ := hOu.len
      have B5 : Hid (Below wr.heap.size wr w5) := (BX.out _).trans (hb5.mono (by simp))
      have O5 := HO.out.below B5.out
      have OU := M.hl (hOu.lower (show w.heap.size ≤ wr.heap.size + 1 by omega))
      have HUB : Hid (∀ g, (Value.slice ua ss.length uc).ownBlock = some g → wr.heap.size ≤ g) := fun g hg => by have := (World.ownsRow.lt hOu g hg).1; omega
      have hsz5 := B5.out.size
      have hrow := O5.row
      rw [HQL.out] at hrow
      have O5' := M.hl O5
      clear hb5 hOu O5 c0 c1 c2 c3
      go_wp2_with (at_builtin; refine wpList_append_own _ rfl (.tmp 14) (.tmp 18) 23 rfl w.heap.size 36 i0 (.agg #[.int .i64 0, .slice none 0 0, .int .i64 0, .int .i64 0]) 4 48 Try.underlying23 hi hz0 hz1 hz2 rfl (by decide) _ _ _ rfl (World.ownsRow.alloc hrow _) ⟨w5.heap.size, 0, none⟩ 1 1 (M.tcells (⟨x, ss, y, z⟩, .slice ua ss.length uc)) rfl rfl (M.four_t _ _ _ _ _ _ _ ⟨rfl, rfl, rfl⟩) ?c2 ?c3 ?c4 ?c5 ?_)
      case c2 =>
        intro v hv
        simp [M.tcells] at hv
        rcases hv with rfl | rfl | rfl | rfl <;> rfl
      case c3 => unfold maxLen; omega
      case c4 => omega
      case c5 => simp; omega
      intro v' w6 hown' hgrow _
      have hgall : w5.grownBy w6 (Value.slice va k vc).ownBlock := ((World.grownBy_alloc w5 _ none).but _).trans hgrow
      have HO6 : Hid (M.OwnT w6 w.heap.size w6.heap.size v' (qs ++ [(⟨x, ss, y, z⟩, .slice ua ss.length uc)])) := O5'.out.more (by rw [HQL.out]; exact hown') hgall OU.out HUB.out (Nat.le_refl _)
      have HB5 : Hid (Below w.heap.size w w5) := HBr.out.trans (B5.out.mono hsz)
      have HB6 : Hid (Below w.heap.size w w6) := HB5.out.grown hgall HB5.out.size (fun j hj => (World.ownsRow.lt hrow j hj).1)
      have HM6 : Hid ((qs ++ [((⟨x, ss, y, z⟩ : M.TapeD), Value.slice ua ss.length uc)]).map Prod.fst = ts.take (k + 1)) := by
        show _ = _
        rw [List.map_append, HM.out, M.take_snocG HFK.out]
        rfl
      clear hown' hgrow hgall hrow hsz5
      go_wp2
      go_roundw
      case rel => exact ⟨k + 1, _, by go_num, by omega, HM6, HO6, HB6⟩
      case measure => simp [intOf]; omega
    · have hall : ts.take k = ts := List.take_of_length_le (by have := HN.out; omega)
      have HM2 : Hid (qs.map Prod.fst = ts) := by have := HM.out; rwa [hall] at this
      clear hall hql
      go_wp2
      go_ret
      exact ⟨_, qs, rfl, HM2.out, HO.out, HBr.out⟩

set_option maxRecDepth 100000 in
set_option maxHeartbeats 3200000 in
theorem iEachS_any (w : World) (a : Option Addr) (n c : Nat) (ts : List M.TapeD) (h : M.Tps w a n c ts) (hok : ∀ t ∈ ts, ∀ s ∈ t.ss, s.size ≤ 100000000) (hl : n + M.tln ts ≤ 1048576) :
    Calls Try.prog 49 #[.slice a n c, .func (.func 60) #[] #[]] w fun e w' => ∃ (v : Value) (qs : List (M.TapeD × Value)), e = .returned v ∧ qs.map Prod.fst = ts.map M.tsync ∧ M.OwnT w' w.heap.size w'.heap.size v qs ∧ Below w.heap.size w w' := by
  obtain ⟨i0, hi, hz0, hz1, hz2⟩ := info_parts Try.infoTp
  have HF := M.hl h
  have HOK := M.hl hok
  have HN : Hid (n = ts.length) := h.1
  clear h hok
  go_enter Try.func49, Try.ntmps49
  go_wp2
  go_loopw [5, 10] (fun v i wr => ∃ (k : Nat) (qs : List (M.TapeD × Value)), i = .int .i64 k ∧ k ≤ n ∧ Hid (qs.map Prod.fst = (ts.take k).map M.tsync) ∧ Hid (M.OwnT wr w.heap.size wr.heap.size v qs) ∧ Hid (Below w.heap.size w wr)) (fun _ i _ => n - (intOf i).toNat)
  case atStart => exact ⟨0, [], rfl, Nat.zero_le _, rfl, M.OwnT.nil _ _ _, Below.refl _ _⟩
  case round =>
    obtain ⟨k, qs, rfl, hk, HM, HO, HBr⟩ := hrel
    have hql : qs.length = k := by
      have := congrArg List.length HM.out
      simp only [List.length_map, List.length_take] at this
      rw [← HN.out] at this
      omega
    have HQL := M.hl hql
    by_cases hlt : k < n
    · obtain ⟨b, off, t, rfl, hfk, hat⟩ := (HF.out.below HBr.out).at hlt
      have HFK := M.hl hfk
      have ho := HOK.out t (List.mem_of_getElem? hfk)
      have htl := M.tln_take hfk
      have hn1 : t.ss.length ≤ 1048576 := by
        have h2 : M.tln ts = M.tln (ts.take (k + 1)) + M.tln (ts.drop (k + 1)) := by rw [← M.tln_app, List.take_append_drop]
        omega
      obtain ⟨x, ss, y, z⟩ := t
      obtain ⟨c0, ⟨a', n', c', c1, hs, -⟩, c2, c3⟩ := hat
      simp only at c0 c1 c2 c3 hs ho hn1
      have hsz := HBr.out.size
      obtain ⟨va, vc, rfl⟩ := HO.out.lenN hql
      have BX : Hid (∀ o, Below wr.heap.size wr (wr.alloc o)) := fun o => (Below.refl _ _).alloc (Nat.le_refl _) _
      have CT : Hid (∀ o, Calls Try.prog 60 #[.agg #[.int .i64 x, .slice a' n' c', .int .i64 y, .int .i64 z]] (wr.alloc o) fun e w' => ∃ u, e = .returned (.agg #[.int .i64 x, u, .int .i64 (ss.length : Int), .int .i64 z]) ∧ M.OwnS w' (wr.heap.size + 1) u ss ∧ Below (wr.alloc o).heap.size (wr.alloc o) w') := fun o => by
        have := iSynced_any (wr.alloc o) a' n' c' ss x y z (hs.below (BX.out o)) ho (by rw [hs.1]; exact hn1)
        simpa using this
      clear hs hfk ho htl hn1 hql
      go_wp2_with fail
      refine (CT.out _).mono ?_
      rintro e w5 ⟨u, rfl, hOu, hb5⟩
      obtain ⟨ua, uc, rfl⟩ := hOu.len
      have B5 : Hid (Below wr.heap.size wr w5) := (BX.out _).trans (hb5.mono (by simp))
      have O5 := HO.out.below B5.out
      have OU := M.hl (hOu.lower (show w.heap.size ≤ wr.heap.size + 1 by omega))
      have HUB : Hid (∀ g, (Value.slice ua ss.length uc).ownBlock = some g → wr.heap.size ≤ g) := fun g hg => by have := (World.ownsRow.lt hOu g hg).1; omega
      have hsz5 := B5.out.size
      have hrow := O5.row
      rw [HQL.out] at hrow
      have O5' := M.hl O5
      clear hb5 hOu O5 c0 c1 c2 c3
      go_wp2_with (at_builtin; refine wpList_append_own _ rfl (.tmp 14) (.tmp 18) 23 rfl w.heap.size 36 i0 (.agg #[.int .i64 0, .slice none 0 0, .int .i64 0, .int .i64 0]) 4 48 Try.underlying23 hi hz0 hz1 hz2 rfl (by decide) _ _ _ rfl (World.ownsRow.alloc hrow _) ⟨w5.heap.size, 0, none⟩ 1 1 (M.tcells (⟨x, ss, (ss.length : Int), z⟩, .slice ua ss.length uc)) rfl rfl (M.four_t _ _ _ _ _ _ _ ⟨rfl, rfl, rfl⟩) ?c2 ?c3 ?c4 ?c5 ?_)
      case c2 =>
        intro v hv
        simp [M.tcells] at hv
        rcases hv with rfl | rfl | rfl | rfl <;> rfl
      case c3 => unfold maxLen; omega
      case c4 => omega
      case c5 => simp; omega
      intro v' w6 hown' hgrow _
      have hgall : w5.grownBy w6 (Value.slice va k vc).ownBlock := ((World.grownBy_alloc w5 _ none).but _).trans hgrow
      have HO6 : Hid (M.OwnT w6 w.heap.size w6.heap.size v' (qs ++ [(⟨x, ss, (ss.length : Int), z⟩, .slice ua ss.length uc)])) := O5'.out.more (by rw [HQL.out]; exact hown') hgall OU.out HUB.out (Nat.le_refl _)
      have HB5 : Hid (Below w.heap.size w w5) := HBr.out.trans (B5.out.mono hsz)
      have HB6 : Hid (Below w.heap.size w w6) := HB5.out.grown hgall HB5.out.size (fun j hj => (World.ownsRow.lt hrow j hj).1)
      have HM6 : Hid ((qs ++ [((⟨x, ss, (ss.length : Int), z⟩ : M.TapeD), Value.slice ua ss.length uc)]).map Prod.fst = (ts.take (k + 1)).map M.tsync) := by
        show _ = _
        rw [List.map_append, HM.out, M.take_snocG HFK.out]
        rw [List.map_append]; rfl
      clear hown' hgrow hgall hrow hsz5
      go_wp2
      go_roundw
      case rel => exact ⟨k + 1, _, by go_num, by omega, HM6, HO6, HB6⟩
      case measure => simp [intOf]; omega
    · have hall : ts.take k = ts := List.take_of_length_le (by have := HN.out; omega)
      have HM2 : Hid (qs.map Prod.fst = ts.map M.tsync) := by have := HM.out; rwa [hall] at this
      clear hall hql
      go_wp2
      go_ret
      exact ⟨_, qs, rfl, HM2.out, HO.out, HBr.out⟩
end Go.Proofs.Ytappficbjjkmiaa

/-
  What l07Copy of the specification does: tapes in memory of their own.
-/
namespace Go.Proofs.Ytappficbjjkmiaa
open Go.RowKit Go.Deep

/-- The cells of a slice of tapes, as a list. -/
theorem M.Tps.cells {w : World} {ad : Addr} {n c : Nat} {ts : List M.TapeD} (h : M.Tps w (some ad) n c ts) : ∃ qs : List (M.TapeD × Value), qs.map Prod.fst = ts ∧ (∀ j u, (M.cellsT qs)[j]? = some u → w.cell? (ad.add j) = some u) ∧ ∀ p ∈ qs, ∃ a n c, p.2 = .slice a n c := by
  have hn := h.1
  have each : ∀ i, i < n → ∃ p : M.TapeD × Value, ts[i]? = some p.1 ∧ (∀ k, k < 4 → some (w.cell? (ad.add (i * 4 + k))) = (M.tcells p)[k]?.map some) ∧ ∃ a n c, p.2 = .slice a n c := by
    intro i hi
    obtain ⟨b, off, t, e, ht, c0, ⟨a', n', c', c1, -, -⟩, c2, c3⟩ := h.at hi
    obtain rfl := Option.some.inj e
    refine ⟨(t, .slice a' n' c'), ht, fun k hk => ?_, _, _, _, rfl⟩
    rw [Addr.add_lit]
    match k, hk with
    | 0, _ => rw [show off + (i * 4 + 0) = off + i * 4 by omega, c0]; rfl
    | 1, _ => rw [show off + (i * 4 + 1) = off + i * 4 + 1 by omega, c1]; rfl
    | 2, _ => rw [show off + (i * 4 + 2) = off + i * 4 + 2 by omega, c2]; rfl
    | 3, _ => rw [show off + (i * 4 + 3) = off + i * 4 + 3 by omega, c3]; rfl
  have hin : Inhabited (M.TapeD × Value) := ⟨(⟨0, [], 0, 0⟩, .bool false)⟩
  obtain ⟨F, hF⟩ := choose_lt each
  have hl : ((List.range n).map F).length = n := by simp
  refine ⟨(List.range n).map F, ?_, fun j u hj => ?_, fun p hp => ?_⟩
  · apply List.ext_getElem?
    intro i
    rw [List.map_map, List.getElem?_map]
    by_cases hi : i < n
    · rw [List.getElem?_range hi, (hF i hi).1]; rfl
    · rw [List.getElem?_eq_none (by simp; omega), List.getElem?_eq_none (by omega)]; rfl
  · have hlt : j < n * 4 := by
      have := (List.getElem?_eq_some_iff.1 hj).1
      rwa [M.cellsT_len, hl] at this
    have hq : j / 4 < n := by omega
    have e := M.cellsT_get ((List.range n).map F) (j / 4) (by rw [hl]; exact hq) (j % 4) (by omega)
    rw [show j / 4 * 4 + j % 4 = j by omega, hj] at e
    have h2 := (hF (j / 4) hq).2.1 (j % 4) (by omega)
    rw [show j / 4 * 4 + j % 4 = j by omega] at h2
    simp only [List.getElem_map, List.getElem_range] at e
    rw [← e] at h2
    simpa using h2
  · obtain ⟨i, hi, rfl⟩ := List.mem_map.1 hp
    exact (hF i (List.mem_range.1 hi)).2.2
theorem M.emptyT (W : World) (base : Nat) (h : base ≤ W.heap.size) : (W.alloc (.cells #[] 36)).ownsRow base 36 4 (.slice (some ⟨W.heap.size, 0, none⟩) 0 0) 0 [] :=
  ⟨rfl, .inr ⟨_, 0, #[], rfl, h, heap_alloc_new _ _, Nat.le_refl _, by decide, rfl, rfl⟩⟩
/-- One tape's blocks are stored anew. -/
theorem M.PAt.blk {w : World} {g k N : Nat} {T : TypeId} {A B : List (M.TapeD × Value)} {p : M.TapeD × Value} {u : Value} (h : M.PAt w g (A ++ p :: B)) (hr : M.Row w g T N) (hA : A.length = k) (hN : k * 4 + 4 ≤ N) : M.PAt (w.setCell ⟨g, k * 4 + 1, none⟩ u) g (A ++ (p.1, u) :: B) := by
  intro j r hr'
  by_cases e : j = k
  · subst e
    rw [List.getElem?_append_right (by omega), hA, Nat.sub_self] at hr'
    obtain rfl := Option.some.inj hr'
    obtain ⟨c0, -, c2, c3⟩ := h j p (by rw [List.getElem?_append_right (by omega), hA, Nat.sub_self]; rfl)
    obtain ⟨v1, g1⟩ := hr.cell (i := j * 4 + 1) (by omega)
    exact ⟨by rw [M.co4 (by omega)]; exact c0, by rw [World.cell?_setCell_same _ _ _ g1], by rw [M.co4 (by omega)]; exact c2, by rw [M.co4 (by omega)]; exact c3⟩
  · have hq : (A ++ p :: B)[j]? = some r := by
      by_cases hj : j < A.length
      · rw [List.getElem?_append_left hj] at hr' ⊢; exact hr'
      · rw [List.getElem?_append_right (by omega)] at hr' ⊢
        obtain ⟨t, ht⟩ : ∃ t, j - A.length = t + 1 := ⟨j - A.length - 1, by omega⟩
        rw [ht] at hr' ⊢
        exact hr'
    obtain ⟨c0, c1, c2, c3⟩ := h j r hq
    exact ⟨by rw [M.co4 (by omega)]; exact c0, by rw [M.co4 (by omega)]; exact c1, by rw [M.co4 (by omega)]; exact c2, by rw [M.co4 (by omega)]; exact c3⟩
theorem M.each.below {w w' : World} {lo hi hi' : Nat} {ps : List (M.TapeD × Value)} (h : M.each w lo hi ps) (hb : Below w.heap.size w w') (hh : hi ≤ hi') : M.each w' lo hi' ps := fun p hp => ⟨(h p hp).1.below hb, fun g hg => Nat.lt_of_lt_of_le ((h p hp).2 g hg) hh⟩
theorem M.drop_consG {α : Type} {l : List α} {k : Nat} {x : α} (h : l[k]? = some x) : l.drop k = x :: l.drop (k + 1) := by
  have hl := (List.getElem?_eq_some_iff.1 h).1
  rw [List.drop_eq_getElem_cons hl, (List.getElem?_eq_some_iff.1 h).2]

set_option maxRecDepth 100000 in
set_option maxHeartbeats 3200000 in
theorem sCopyTp_any (w : World) (ad : Addr) (n c : Nat) (ts : List M.TapeD) (h : M.Tps w (some ad) n c ts) (hl : n + M.tln ts ≤ 1048576) :
    Calls Try.prog 61 #[.slice (some ad) n c] w fun e w' => ∃ (v : Value) (qs : List (M.TapeD × Value)), e = .returned v ∧ qs.map Prod.fst = ts ∧ M.OwnT w' w.heap.size w'.heap.size v qs ∧ Below w.heap.size w w' := by
  obtain ⟨i0, hi, hz0, hz1, hz2⟩ := info_parts Try.infoTp
  obtain ⟨j0, hj, hy0, hy1, hy2⟩ := info_parts Try.infoTx
  have HF := M.hl h
  have HN : Hid (n = ts.length) := h.1
  have BO : Hid (∀ o, Below w.heap.size w (w.alloc o)) := fun o => (Below.refl _ _).alloc (Nat.le_refl _) _
  have hnl : n ≤ 1048576 := by omega
  clear h
  obtain ⟨qs, hq1, hq2, hq3⟩ := HF.out.cells
  have hql : qs.length = n := by rw [HN.out, ← hq1, List.length_map]
  have HQ1 := M.hl hq1
  have HQL := M.hl hql
  have HSRC : Hid (∀ o, ∀ j u, (M.cellsT qs)[j]? = some u → (w.alloc o).cell? (ad.add j) = some u) := fun o => by
    obtain ⟨qs', -, hc, -⟩ := (HF.out.below (BO.out o)).cells
    intro j u hj
    have h0 := hq2 j u hj
    have hb : ad.block < w.heap.size := by
      have := World.block_lt_of_cell? w _ h0
      unfold Addr.add at this
      split at this <;> simpa using this
    have := (BO.out o).cell (p := ad.add j) (by unfold Addr.add; split <;> simpa using hb)
    exact this.trans h0
  have HONE : Hid (∀ u ∈ M.cellsT qs, u.oneCell' = true) := fun u hu => by
    obtain ⟨p, hp, hup⟩ := List.mem_flatMap.1 hu
    obtain ⟨a1, n1, c1, e⟩ := hq3 p hp
    simp [M.tcells] at hup
    rcases hup with rfl | rfl | rfl | rfl
    · rfl
    · rw [e]; rfl
    · rfl
    · rfl
  clear hq1 hq2 hq3 hql
  go_enter Try.func61, Try.ntmps61
  go_wp2_with (at_builtin; refine wpList_append_own _ rfl (.tmp 5) (.tmp 6) 23 rfl w.heap.size 36 i0 (.agg #[.int .i64 0, .slice none 0 0, .int .i64 0, .int .i64 0]) 4 48 Try.underlying23 hi hz0 hz1 hz2 rfl (by decide) (.slice (some ⟨w.heap.size, 0, none⟩) 0 0) 0 [] rfl ?s1 ad n c (M.cellsT qs) rfl ?c1 ?s2 HONE.out ?c3 ?c4 ?c5 ?_)
  case s1 => exact M.emptyT w w.heap.size (Nat.le_refl _)
  case s2 => exact HSRC.out _
  case c1 => rw [M.cellsT_len, HQL.out]
  case c3 => unfold maxLen; omega
  case c4 => omega
  case c5 => simp
  intro v1 w1 hown hgrow hnn
  try simp only [Nat.zero_add, List.nil_append] at hown
  have B1 : Hid (Below w.heap.size w w1) := (BO.out _).grown hgrow (BO.out _).size (fun k hk => by have := Option.some.inj hk; simp at this; omega)
  obtain ⟨hl0, ⟨rfl, h0⟩ | ⟨g, cap, cur, rfl, hb, hh, hnc, hc, hz, ht⟩⟩ := hown
  · exact (hnn rfl).elim
  have HP1 : Hid (M.PAt w1 g qs) := M.pat_of hh (by rw [HQL.out]; exact ht)
  have HR1 : Hid (M.Row w1 g 36 (cap * 4)) := ⟨cur, hh, hz⟩
  clear hl0 hh hz ht hgrow hnn
  go_wp2
  go_loopw [4] (fun i wr => ∃ (k : Nat) (rs : List (M.TapeD × Value)), i = .int .i64 k ∧ k ≤ n ∧ Hid (rs.map Prod.fst = ts.take k) ∧ Hid (M.Row wr g 36 (cap * 4)) ∧ Hid (M.PAt wr g (rs ++ qs.drop k)) ∧ Hid (M.each wr w.heap.size wr.heap.size rs) ∧ Hid (M.apart rs) ∧ Hid (Below w.heap.size w wr)) (fun i _ => n - (intOf i).toNat)
  case atStart => exact ⟨0, [], rfl, Nat.zero_le _, rfl, HR1, HP1, (fun p hp => by simp at hp), List.Pairwise.nil, B1⟩
  case round =>
    obtain ⟨k, rs, rfl, hk, HM, HRr, HPr, HEr, HAr, HBr⟩ := hrel
    have hrl : rs.length = k := by
      have := congrArg List.length HM.out
      simp only [List.length_map, List.length_take] at this
      rw [← HN.out] at this
      omega
    have HRL := M.hl hrl
    by_cases hlt : k < n
    · obtain ⟨b, off, t, hadd, hfk, hat⟩ := (HF.out.below HBr.out).at hlt
      cases hadd
      have HFK := M.hl hfk
      have htl := M.tln_take hfk
      have hn1 : t.ss.length ≤ 1048576 := by
        have h2 : M.tln ts = M.tln (ts.take (k + 1)) + M.tln (ts.drop (k + 1)) := by rw [← M.tln_app, List.take_append_drop]
        omega
      have hqk : ∃ p, qs[k]? = some p ∧ p.1 = t := by
        have h1 : (qs.map Prod.fst)[k]? = some t := by rw [HQ1.out]; exact hfk
        rw [List.getElem?_map] at h1
        cases hq : qs[k]? with
        | none => rw [hq] at h1; cases h1
        | some p => rw [hq] at h1; exact ⟨p, rfl, Option.some.inj h1⟩
      obtain ⟨p, hqk, hpt⟩ := hqk
      have hPd := HPr.out
      rw [M.drop_consG hqk] at hPd
      have HPD := M.hl hPd
      have HPT := M.hl hpt
      obtain ⟨x, ss, y, z⟩ := t
      obtain ⟨c0, ⟨a', n', c', c1, hs, hnz⟩, c2, c3⟩ := hat
      simp only at c0 c1 c2 c3 hs hn1
      have hsn := hs.1
      have hszr := HBr.out.size
      have e1 := HRr.out.free (k * 4 + 1)
      obtain ⟨v1, g1⟩ := HRr.out.cell (i := k * 4 + 1) (by omega)
      have fin : ∀ (u : Value) (w6 : World), M.OwnS w6 wr.heap.size u ss → Below wr.heap.size wr w6 → ∃ rs', rs'.map Prod.fst = ts.take (k + 1) ∧ M.Row (w6.setCell ⟨g, k * 4 + 1, none⟩ u) g 36 (cap * 4) ∧ M.PAt (w6.setCell ⟨g, k * 4 + 1, none⟩ u) g (rs' ++ qs.drop (k + 1)) ∧ M.each (w6.setCell ⟨g, k * 4 + 1, none⟩ u) w.heap.size (w6.setCell ⟨g, k * 4 + 1, none⟩ u).heap.size rs' ∧ M.apart rs' ∧ Below w.heap.size w (w6.setCell ⟨g, k * 4 + 1, none⟩ u) := by
        intro u w6 hO hB
        have hR6 : M.Row w6 g 36 (cap * 4) := HRr.out.of_block (hB.block g HRr.out.lt)
        have hE6 : M.each w6 w.heap.size w6.heap.size (rs ++ [((⟨x, ss, y, z⟩ : M.TapeD), u)]) := fun q hq => by
          rcases List.mem_append.1 hq with h1 | h1
          · exact (HEr.out.below hB hB.size) q h1
          · obtain rfl := List.mem_singleton.1 h1
            exact ⟨hO.lower hszr, fun g' hg' => (World.ownsRow.lt hO g' hg').2⟩
        refine ⟨rs ++ [(⟨x, ss, y, z⟩, u)], ?_, hR6.setCell _ _, ?_, ?_, M.apart_snoc HAr.out (fun q hq g' hg' e => ?_), (HBr.out.trans (hB.mono hszr)).setCell hb _⟩
        · rw [List.map_append, HM.out, M.take_snocG HFK.out]; rfl
        · have := (HPD.out.of_block (hB.block g HRr.out.lt)).blk (u := u) hR6 HRL.out (by omega)
          rw [HPT.out] at this
          rw [List.append_assoc]
          exact this
        · have := hE6.set hR6 (k * 4 + 1) u
          exact fun q hq => ⟨(this q hq).1, fun g' hg' => by have := (this q hq).2 g' hg'; simpa [World.setCell] using this⟩
        · have h1 := (HEr.out q hq).2 g' hg'
          have h2 := (World.ownsRow.lt hO g' e).1
          omega
      have FIN := M.hl fin
      have BX : Hid (∀ o, Below wr.heap.size wr (wr.alloc o)) := fun o => (Below.refl _ _).alloc (Nat.le_refl _) _
      have HS := M.hl (fun o => hs.below (BX.out o))
      have RX : Hid (∀ o, M.Row (wr.alloc o) g 36 (cap * 4)) := fun o => HRr.out.of_block ((BX.out o).block g HRr.out.lt)
      have GX : Hid (g < wr.heap.size) := HRr.out.lt
      have c1a : ∀ o, (wr.alloc o).cell? ⟨b, off + k * 4 + 1, none⟩ = some (.slice a' n' c') := fun o => ((BX.out o).cell (p := ⟨b, off + k * 4 + 1, none⟩) (World.block_lt_of_cell? wr _ c1)).trans c1
      have HSN := M.hl hsn
      have HNZ := M.hl hnz
      clear fin hfk htl hqk hpt hPd hs g1 e1 hrl hsn hnz c0 c1 c2 c3
      cases a' with
      | none =>
        obtain rfl := HNZ.out rfl
        have hn0 : n' = 0 := by have := (HS.out (.cells #[] 9)).2.1; omega
        subst hn0
        obtain rfl : ss = [] := List.length_eq_zero_iff.1 HSN.out.symm
        obtain ⟨v2, g2⟩ := (RX.out (.cells #[] 9)).cell (i := k * 4 + 1) (by omega)
        have e2 := (RX.out (.cells #[] 9)).free (k * 4 + 1)
        have HOE : Hid (M.OwnS (wr.alloc (.cells #[] 9)) wr.heap.size (.slice (some ⟨wr.heap.size, 0, none⟩) 0 0) []) := M.empty_row wr 9 wr.heap.size (Nat.le_refl _)
        go_wp2_with (at_builtin; refine wpList_append_own_none rfl (.tmp 16) (.tmp 21) 34 rfl wr.heap.size 9 j0 1 Try.underlying34 hj (.slice (some ⟨wr.heap.size, 0, none⟩) 0 0) 0 [] rfl HOE.out rfl ?_)
        obtain ⟨rs', h1, h2, h3, h4, h5, h6⟩ := FIN.out _ _ HOE.out (BX.out _)
        have H1 := M.hl h1
        have H2 := M.hl h2
        have H3 := M.hl h3
        have H4 := M.hl h4
        have H5 := M.hl h5
        have H6 := M.hl h6
        clear h1 h2 h3 h4 h5 h6
        go_wp2
        go_roundw
        case rel => exact ⟨k + 1, rs', by go_num, by omega, H1, H2, H3, H4, H5, H6⟩
        case measure => simp [intOf]; omega
      | some ad' =>
        have HSS : Hid (∀ o, ∀ j u, (ss.map Value.string)[j]? = some u → (wr.alloc o).cell? (ad'.add j) = some u) := fun o => (HS.out o).src
        go_wp2_with (at_builtin; refine wpList_append_own _ rfl (.tmp 16) (.tmp 21) 34 rfl wr.heap.size 9 j0 (.string ⟨#[]⟩) 1 16 Try.underlying34 hj hy0 hy1 hy2 rfl (by decide) (.slice (some ⟨wr.heap.size, 0, none⟩) 0 0) 0 [] rfl ?s1 ad' n' c' (ss.map Value.string) rfl ?c1 ?s2 ?c2 ?c3 ?c4 ?c5 ?_)
        case s1 => exact M.empty_row wr 9 wr.heap.size (Nat.le_refl _)
        case s2 => exact HSS.out _
        case c1 => rw [List.length_map, Nat.mul_one]; exact HSN.out.symm
        case c2 => exact fun u hu => by obtain ⟨z, _, rfl⟩ := List.mem_map.1 hu; rfl
        case c3 => have := HSN.out; unfold maxLen; omega
        case c4 => have := HSN.out; omega
        case c5 => simp
        intro v w6 hown hg _
        have O6 : M.OwnS w6 wr.heap.size v ss := by
          show World.ownsRow _ _ _ _ _ _ _
          rw [← HSN.out]
          simpa using hown
        obtain ⟨va, vc, rfl⟩ := O6.len
        have B6 : Below wr.heap.size wr w6 := (BX.out _).grown hg (BX.out _).size (fun j hj => by have := Option.some.inj hj; simp at this; omega)
        obtain ⟨v2, g2⟩ := ((HRr.out.of_block (B6.block g GX.out)) : M.Row w6 g 36 (cap * 4)).cell (i := k * 4 + 1) (by omega)
        have e2 := ((HRr.out.of_block (B6.block g GX.out)) : M.Row w6 g 36 (cap * 4)).free (k * 4 + 1)
        obtain ⟨rs', h1, h2, h3, h4, h5, h6⟩ := FIN.out _ w6 O6 B6
        have H1 := M.hl h1
        have H2 := M.hl h2
        have H3 := M.hl h3
        have H4 := M.hl h4
        have H5 := M.hl h5
        have H6 := M.hl h6
        clear h1 h2 h3 h4 h5 h6 hown hg O6 B6
        go_wp2
        go_roundw
        case rel => exact ⟨k + 1, rs', by go_num, by omega, H1, H2, H3, H4, H5, H6⟩
        case measure => simp [intOf]; omega
    · have hlk : k = n := by omega
      subst hlk
      have HM2 : Hid (rs.map Prod.fst = ts) := by have := HM.out; rwa [List.take_of_length_le (by have := HN.out; omega)] at this
      have HP2 := HPr.out
      rw [List.drop_of_length_le (by rw [HQL.out]; exact Nat.le_refl _), List.append_nil] at HP2
      have HP3 := M.hl HP2
      clear HP2 hrl
      go_wp2
      go_ret
      refine ⟨_, rs, rfl, HM2.out, ⟨?_, fun g' hg' => ?_, HEr.out, HAr.out⟩, HBr.out⟩
      · have := M.row_of (cap := cap) (lo := w.heap.size) HP3.out HRr.out hb (by rw [HRL.out]; exact hnc) hc
        rwa [HRL.out] at this ⊢
      · obtain rfl := Option.some.inj hg'
        exact HRr.out.lt
end Go.Proofs.Ytappficbjjkmiaa

/-
  Rows of tapes of the call's own, with one tape stored anew.
-/
namespace Go.Proofs.Ytappficbjjkmiaa
open Go.RowKit

theorem M.split_at {α : Type} {l : List α} {k : Nat} {x : α} (h : l[k]? = some x) : l = l.take k ++ x :: l.drop (k + 1) := by
  rw [← M.drop_consG h, List.take_append_drop]
/-- Where the tapes of an own slice lie. -/
theorem M.OwnT.place {w : World} {lo hi g n cap : Nat} {qs : List (M.TapeD × Value)} (h : M.OwnT w lo hi (.slice (some ⟨g, 0, none⟩) n cap) qs) : qs.length = n ∧ lo ≤ g ∧ n ≤ cap ∧ cap ≤ maxLen ∧ M.Row w g 36 (cap * 4) ∧ M.PAt w g qs := by
  obtain ⟨⟨hl, ⟨e, -⟩ | ⟨g', cap', cur, e, hb, hh, hn, hc, hz, ht⟩⟩, -, -, -⟩ := h
  · cases e
  · cases e
    exact ⟨rfl, hb, hn, hc, ⟨cur, hh, hz⟩, M.pat_of hh ht⟩
/-- One tape's own numbers are stored anew. -/
theorem M.OwnT.upd {w W : World} {lo hi g n cap k : Nat} {qs : List (M.TapeD × Value)} {p q : M.TapeD × Value} (h : M.OwnT w lo hi (.slice (some ⟨g, 0, none⟩) n cap) qs) (hk : qs[k]? = some p) (hq : q.2 = p.2) (hs : q.1.ss = p.1.ss)
    (hr : M.Row W g 36 (cap * 4)) (ho : M.each W lo hi qs) (hold : ∀ j, j ≠ k * 4 → j ≠ k * 4 + 2 → j ≠ k * 4 + 3 → W.cell? ⟨g, j, none⟩ = w.cell? ⟨g, j, none⟩)
    (h0 : W.cell? ⟨g, k * 4, none⟩ = some (.int .i64 q.1.lab)) (h2 : W.cell? ⟨g, k * 4 + 2, none⟩ = some (.int .i64 q.1.syn)) (h3 : W.cell? ⟨g, k * 4 + 3, none⟩ = some (.int .i64 q.1.room)) : M.OwnT W lo hi (.slice (some ⟨g, 0, none⟩) n cap) (qs.take k ++ q :: qs.drop (k + 1)) := by
  obtain ⟨hl, hb, hn, hc, -, hp⟩ := h.place
  have hkl := (List.getElem?_eq_some_iff.1 hk).1
  have hsp := M.split_at hk
  have hlen : (qs.take k ++ q :: qs.drop (k + 1)).length = n := by
    have := congrArg List.length hsp
    simp only [List.length_append, List.length_cons] at this ⊢
    omega
  have hA : (qs.take k).length = k := by rw [List.length_take]; omega
  have hp' := hp
  rw [hsp] at hp'
  have hP : M.PAt W g (qs.take k ++ q :: qs.drop (k + 1)) := hp'.upd hA hq hold h0 h2 h3
  refine ⟨?_, h.top, fun r hr' => ?_, M.apart_congr h.apart ?_⟩
  · have := M.row_of (cap := cap) (lo := lo) hP hr hb (by rw [hlen]; exact hn) hc
    rwa [hlen] at this ⊢
  · rcases List.mem_append.1 hr' with h1 | h1
    · exact ho r (List.mem_of_mem_take h1)
    · rcases List.mem_cons.1 h1 with rfl | h2
      · have := ho p (List.mem_of_getElem? hk)
        exact ⟨by rw [hq, hs]; exact this.1, by rw [hq]; exact this.2⟩
      · exact ho r (List.mem_of_mem_drop h2)
  · conv => lhs; rw [hsp]
    simp [hq]
theorem M.OwnT.synAt {w : World} {lo hi g n cap k : Nat} {qs : List (M.TapeD × Value)} {t : M.TapeD} {u : Value} (h : M.OwnT w lo hi (.slice (some ⟨g, 0, none⟩) n cap) qs) (hk : qs[k]? = some (t, u)) (y : Int) : M.OwnT (w.setCell ⟨g, k * 4 + 2, none⟩ (.int .i64 y)) lo hi (.slice (some ⟨g, 0, none⟩) n cap) (qs.take k ++ (⟨t.lab, t.ss, y, t.room⟩, u) :: qs.drop (k + 1)) := by
  obtain ⟨hl, hb, hn, hc, hr, hp⟩ := h.place
  have hkl := (List.getElem?_eq_some_iff.1 hk).1
  obtain ⟨c0, c1, c2, c3⟩ := hp k _ hk
  refine h.upd hk rfl rfl (hr.setCell _ _) (M.each.set h.each hr _ _) (fun j _ h2 _ => M.co4 (by omega)) ?_ ?_ ?_
  · rw [M.co4 (by omega)]; exact c0
  · rw [World.cell?_setCell_same _ _ _ c2]
  · rw [M.co4 (by omega)]; exact c3
theorem M.tend_le {ps : List (M.TapeD × Value)} {k A : Nat} (h1 : ps.length ≤ 1048576) (h2 : M.tln (ps.map Prod.fst) ≤ A) (hk : k ≤ 10000000) (hA : A ≤ 2000000) : M.tend ps k ≤ 40000000 := by
  rw [M.tend_eq]; omega
end Go.Proofs.Ytappficbjjkmiaa

/-
  Rows of tapes of the call's own, with the blocks of one tape made shorter.
-/
namespace Go.Proofs.Ytappficbjjkmiaa
open Go.RowKit

theorem M.OwnS.short {w : World} {lo L c N : Nat} {a : Option Addr} {ss : List ByteArray} (h : M.OwnS w lo (.slice a L c) ss) (hN : N ≤ L) : M.OwnS w lo (.slice a N c) (ss.take N) := by
  obtain ⟨hl, ⟨e, h0⟩ | ⟨g, cap, cur, e, hb, hh, hn, hc, hz, ht⟩⟩ := h
  · cases e
    obtain rfl : ss = [] := List.length_eq_zero_iff.1 h0
    obtain rfl : N = 0 := by omega
    exact M.OwnS.nil _ _
  · cases e
    have hlen : (ss.take N).length = N := by rw [List.length_take]; omega
    refine ⟨by simp, .inr ⟨g, _, cur, by rw [hlen], hb, hh, by omega, hc, hz, ?_⟩⟩
    rw [hlen, Nat.mul_one, List.map_take, ← ht, Nat.mul_one, List.take_take, Nat.min_eq_left hN]
theorem M.stBt {lo H : Nat} {a b : World} (h : Below lo a b) (hH : lo ≤ H) (j : Nat) (v : Value) : Below lo a (b.setCell ⟨H, j, none⟩ v) := h.setCell hH v
theorem M.apart_congrB {ps qs : List (M.TapeD × Value)} (h : M.apart ps) (e : ps.map (fun p => p.2.ownBlock) = qs.map fun p => p.2.ownBlock) : M.apart qs := by
  have h1 : (ps.map fun p => p.2.ownBlock).Pairwise fun u v => ∀ g, u = some g → v ≠ some g := List.pairwise_map.2 h
  rw [e] at h1
  exact List.pairwise_map.1 h1
theorem M.OwnT.cut {w : World} {lo hi g n cap k : Nat} {qs : List (M.TapeD × Value)} {p : M.TapeD × Value} (h : M.OwnT w lo hi (.slice (some ⟨g, 0, none⟩) n cap) qs) (hk : qs[k]? = some p) (u : Value) (ss : List ByteArray) (y : Int) (ho : M.OwnS w lo u ss) (hb : u.ownBlock = p.2.ownBlock) :
    M.OwnT ((w.setCell ⟨g, k * 4 + 1, none⟩ u).setCell ⟨g, k * 4 + 2, none⟩ (.int .i64 y)) lo hi (.slice (some ⟨g, 0, none⟩) n cap) (qs.take k ++ (⟨p.1.lab, ss, y, p.1.room⟩, u) :: qs.drop (k + 1)) := by
  obtain ⟨hl, hlo, hn, hc, hr, hp⟩ := h.place
  have hkl := (List.getElem?_eq_some_iff.1 hk).1
  have hsp := M.split_at hk
  have hA : (qs.take k).length = k := by rw [List.length_take]; omega
  have hlen : (qs.take k ++ ((⟨p.1.lab, ss, y, p.1.room⟩ : M.TapeD), u) :: qs.drop (k + 1)).length = n := by
    have := congrArg List.length hsp
    simp only [List.length_append, List.length_cons] at this ⊢
    omega
  obtain ⟨c0, c1, c2, c3⟩ := hp k _ hk
  have hp' := hp
  rw [hsp] at hp'
  have hP1 := hp'.blk (u := u) hr hA (by omega)
  have hP2 : M.PAt ((w.setCell ⟨g, k * 4 + 1, none⟩ u).setCell ⟨g, k * 4 + 2, none⟩ (.int .i64 y)) g (qs.take k ++ (⟨p.1.lab, ss, y, p.1.room⟩, u) :: qs.drop (k + 1)) := by
    refine hP1.upd hA rfl (fun j _ h2 _ => M.co4 (by omega)) ?_ ?_ ?_
    · rw [M.co4 (by omega), M.co4 (by omega)]; exact c0
    · rw [World.cell?_setCell_same _ _ _ ((M.co4 (by omega)).trans c2)]
    · rw [M.co4 (by omega), M.co4 (by omega)]; exact c3
  have hE := M.each.set (M.each.set h.each hr (k * 4 + 1) u) (hr.setCell _ _) (k * 4 + 2) (.int .i64 y)
  have hu : M.OwnS ((w.setCell ⟨g, k * 4 + 1, none⟩ u).setCell ⟨g, k * 4 + 2, none⟩ (.int .i64 y)) lo u ss := (ho.setO (ho.notRow hr) _ _).setO (ho.notRow hr) _ _
  refine ⟨?_, h.top, fun r hr' => ?_, M.apart_congrB h.apart ?_⟩
  · have := M.row_of (cap := cap) (lo := lo) hP2 ((hr.setCell _ _).setCell _ _) hlo (by rw [hlen]; exact hn) hc
    rwa [hlen] at this ⊢
  · rcases List.mem_append.1 hr' with h1 | h1
    · exact hE r (List.mem_of_mem_take h1)
    · rcases List.mem_cons.1 h1 with rfl | h2
      · exact ⟨hu, fun g' hg' => (h.each p (List.mem_of_getElem? hk)).2 g' (by rw [← hb]; exact hg')⟩
      · exact hE r (List.mem_of_mem_drop h2)
  · conv => lhs; rw [hsp]
    simp [hb]
end Go.Proofs.Ytappficbjjkmiaa

/-
  Rows of tapes of the call's own, with the blocks of one tape made longer.
-/
namespace Go.Proofs.Ytappficbjjkmiaa
open Go.RowKit

/-- A row of texts, behind a change that leaves its block. -/
theorem M.OwnS.keptAt {w W : World} {base : Nat} {v : Value} {ss : List ByteArray} (h : M.OwnS w base v ss) (hb : ∀ g, v.ownBlock = some g → g < w.heap.size → W.heap[g]? = w.heap[g]?) : M.OwnS W base v ss := by
  obtain ⟨hl, h0 | ⟨g, cap, cur, hv, hg, hh, hr⟩⟩ := h
  · exact ⟨hl, .inl h0⟩
  · exact ⟨hl, .inr ⟨g, cap, cur, hv, hg, by rw [hb g (by rw [hv]; rfl) (Array.getElem?_eq_some_iff.1 hh).1]; exact hh, hr⟩⟩
theorem M.OwnT.app {w W : World} {lo hi g n cap k : Nat} {qs : List (M.TapeD × Value)} {p : M.TapeD × Value} {u : Value} {ss : List ByteArray} (h : M.OwnT w lo hi (.slice (some ⟨g, 0, none⟩) n cap) qs) (hk : qs[k]? = some p) (hgr : w.grownBy W p.2.ownBlock) (hhi : hi ≤ w.heap.size)
    (ho : M.OwnS W lo u ss) (hloc : u.ownBlock = p.2.ownBlock ∨ ∀ b, u.ownBlock = some b → w.heap.size ≤ b) :
    M.OwnT (W.setCell ⟨g, k * 4 + 1, none⟩ u) lo W.heap.size (.slice (some ⟨g, 0, none⟩) n cap) (qs.take k ++ (⟨p.1.lab, ss, p.1.syn, p.1.room⟩, u) :: qs.drop (k + 1)) := by
  obtain ⟨hl, hlo, hn, hc, hr, hp⟩ := h.place
  have hkl := (List.getElem?_eq_some_iff.1 hk).1
  have hpm := List.mem_of_getElem? hk
  have hsp := M.split_at hk
  have hA : (qs.take k).length = k := by rw [List.length_take]; omega
  have hlen : (qs.take k ++ ((⟨p.1.lab, ss, p.1.syn, p.1.room⟩ : M.TapeD), u) :: qs.drop (k + 1)).length = n := by
    have := congrArg List.length hsp
    simp only [List.length_append, List.length_cons] at this ⊢
    omega
  have hghi : g < hi := h.top g rfl
  have hG : W.heap[g]? = w.heap[g]? := hgr.block g (by omega) (fun e => h.notIn hpm rfl e.symm)
  have hpW := hp.of_block hG
  have hrW : M.Row W g 36 (cap * 4) := by
    obtain ⟨cur, hh, hz⟩ := hr
    exact ⟨cur, by rw [hG]; exact hh, hz⟩
  have hap := h.apart
  unfold M.apart at hap
  rw [hsp] at hap
  obtain ⟨ap1, ap2, ap3⟩ := List.pairwise_append.1 hap
  obtain ⟨ap4, ap5⟩ := List.pairwise_cons.1 ap2
  have hoth : ∀ r ∈ qs, (∀ b, r.2.ownBlock = some b → p.2.ownBlock ≠ some b) → M.own1 W lo W.heap.size r := fun r hr' hne => by
    obtain ⟨e1, e2⟩ := h.each r hr'
    exact ⟨e1.keptAt (fun b hb hbs => hgr.block b hbs (fun e => hne b hb e.symm)), fun b hb => Nat.lt_of_lt_of_le (Nat.lt_of_lt_of_le (e2 b hb) hhi) hgr.size⟩
  have hset : ∀ r, M.own1 W lo W.heap.size r → M.own1 (W.setCell ⟨g, k * 4 + 1, none⟩ u) lo W.heap.size r := fun r hr' => ⟨hr'.1.setO (hr'.1.notRow hrW) _ _, hr'.2⟩
  have hul : ∀ b, u.ownBlock = some b → b < W.heap.size := fun b hb => (World.ownsRow.lt ho b hb).2
  have hP : M.PAt (W.setCell ⟨g, k * 4 + 1, none⟩ u) g (qs.take k ++ (⟨p.1.lab, ss, p.1.syn, p.1.room⟩, u) :: qs.drop (k + 1)) := by
    have hp' := hpW
    rw [hsp] at hp'
    have hP1 := hp'.blk (u := u) hrW hA (by omega)
    obtain ⟨c0, c1, c2, c3⟩ := hpW k _ hk
    refine hP1.upd hA rfl (fun j _ _ _ => rfl) ?_ ?_ ?_
    · rw [M.co4 (by omega)]; exact c0
    · rw [M.co4 (by omega)]; exact c2
    · rw [M.co4 (by omega)]; exact c3
  refine ⟨?_, fun b hb => ?_, fun r hr' => ?_, ?_⟩
  · have := M.row_of (cap := cap) (lo := lo) hP (hrW.setCell _ _) hlo (by rw [hlen]; exact hn) hc
    rwa [hlen] at this ⊢
  · exact Nat.lt_of_lt_of_le (Nat.lt_of_lt_of_le (h.top b hb) hhi) hgr.size
  · rcases List.mem_append.1 hr' with h1 | h1
    · exact hset r (hoth r (List.mem_of_mem_take h1) (fun b hb => ap3 r h1 p (List.mem_cons_self ..) b hb))
    · rcases List.mem_cons.1 h1 with rfl | h2
      · exact ⟨ho.setO (ho.notRow hrW) _ _, hul⟩
      · exact hset r (hoth r (List.mem_of_mem_drop h2) (fun b hb e => ap4 r h2 b e hb))
  · refine List.pairwise_append.2 ⟨ap1, List.pairwise_cons.2 ⟨fun r hr' b hb => ?_, ap5⟩, fun r hr' q hq b hb => ?_⟩
    · rcases hloc with e | e
      · exact ap4 r hr' b (by rw [← e]; exact hb)
      · intro e2
        have h1 := e b hb
        have h2 := (h.each r (List.mem_of_mem_drop hr')).2 b e2
        omega
    · rcases List.mem_cons.1 hq with rfl | h2
      · rcases hloc with e | e
        · show u.ownBlock ≠ some b
          rw [e]
          exact ap3 r hr' p (List.mem_cons_self ..) b hb
        · intro e2
          have h1 := e b e2
          have h2 := (h.each r (List.mem_of_mem_take hr')).2 b hb
          omega
      · exact ap3 r hr' q (List.mem_cons_of_mem _ h2) b hb
end Go.Proofs.Ytappficbjjkmiaa

/-
  Rows of tapes of the call's own, with one tape stored anew whole, its blocks made longer.
-/
namespace Go.Proofs.Ytappficbjjkmiaa
open Go.RowKit

/-- A cell that holds the value is stored: nothing changes. -/
theorem M.setSame {W : World} {b j : Nat} {v : Value} (h : W.cell? ⟨b, j, none⟩ = some v) : W.setCell ⟨b, j, none⟩ v = W := by
  have e : (W.setCell ⟨b, j, none⟩ v).heap = W.heap := by
    apply Array.ext
    · simp [World.setCell]
    intro i h1 h2
    simp only [World.setCell, Array.getElem_modify]
    by_cases hi : b = i
    · subst hi
      rw [if_pos rfl]
      simp only [World.cell?, Array.getElem?_eq_getElem h2] at h
      revert h
      cases hx : W.heap[b] with
      | cells c T fr =>
        intro h
        replace h : c[j]? = some v := by simpa using h
        obtain ⟨hj, e⟩ := Array.getElem?_eq_some_iff.1 h
        subst e
        simp
        apply Array.ext
        · simp
        intro i h3 h4
        rw [Array.getElem_setIfInBounds]
        by_cases hji : j = i
        · subst hji; simp
        · rw [if_neg hji]
      | _ => intro _; rfl
    · rw [if_neg hi]
  show ({ W with heap := (W.setCell ⟨b, j, none⟩ v).heap } : World) = W
  rw [e]
theorem M.OwnT.app4 {w W : World} {lo hi g n cap k : Nat} {qs : List (M.TapeD × Value)} {p : M.TapeD × Value} {u : Value} {ss : List ByteArray} (h : M.OwnT w lo hi (.slice (some ⟨g, 0, none⟩) n cap) qs) (hk : qs[k]? = some p) (hgr : w.grownBy W p.2.ownBlock) (hhi : hi ≤ w.heap.size)
    (ho : M.OwnS W lo u ss) (hloc : u.ownBlock = p.2.ownBlock ∨ ∀ b, u.ownBlock = some b → w.heap.size ≤ b) :
    M.OwnT ((((W.setCell ⟨g, k * 4, none⟩ (.int .i64 p.1.lab)).setCell ⟨g, k * 4 + 1, none⟩ u).setCell ⟨g, k * 4 + 2, none⟩ (.int .i64 p.1.syn)).setCell ⟨g, k * 4 + 3, none⟩ (.int .i64 p.1.room)) lo W.heap.size (.slice (some ⟨g, 0, none⟩) n cap) (qs.take k ++ (⟨p.1.lab, ss, p.1.syn, p.1.room⟩, u) :: qs.drop (k + 1)) := by
  obtain ⟨hl, hlo, hn, hc, hr, hp⟩ := h.place
  have hghi : g < hi := h.top g rfl
  have hG : W.heap[g]? = w.heap[g]? := hgr.block g (by omega) (fun e => h.notIn (List.mem_of_getElem? hk) rfl e.symm)
  obtain ⟨c0, c1, c2, c3⟩ := (hp.of_block hG) k _ hk
  rw [M.setSame c0, M.setSame (W := W.setCell ⟨g, k * 4 + 1, none⟩ u) ((M.co4 (by omega)).trans c2), M.setSame (W := W.setCell ⟨g, k * 4 + 1, none⟩ u) ((M.co4 (by omega)).trans c3)]
  exact h.app hk hgr hhi ho hloc
end Go.Proofs.Ytappficbjjkmiaa
