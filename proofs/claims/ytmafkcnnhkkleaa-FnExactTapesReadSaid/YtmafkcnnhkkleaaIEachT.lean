/-
  What eachTape of the program does with copied and with synced.
-/
import Derived.Test.YtmafkcnnhkkleaaITapeC
import Derived.Test.YtmafkcnnhkkleaaTapeMarks
namespace Go.Proofs.Ytmafkcnnhkkleaa
open Go.RowKit

/-- A tape with all of its blocks synced. -/
def M.tsync (t : M.TapeD) : M.TapeD := ⟨t.lab, t.ss, (t.ss.length : Int), t.room⟩
theorem M.four_t (w : World) (x y z : Int) (v : Value) (T : TypeId) (t : M.TapeD) (h : t.lab = x ∧ t.syn = y ∧ t.room = z) : ∀ j u, (M.tcells (t, v))[j]? = some u → (w.alloc (.cells #[.int .i64 x, v, .int .i64 y, .int .i64 z] T)).cell? ((⟨w.heap.size, 0, none⟩ : Addr).add j) = some u := by
  obtain ⟨rfl, rfl, rfl⟩ := h
  intro j u hu
  rw [Addr.add_lit, Nat.zero_add, World.cell?_alloc_mark]
  simpa [M.tcells] using hu
theorem M.OwnT.more {w w' : World} {lo hi hi' : Nat} {v v' : Value} {qs : List (M.TapeD × Value)} {q : M.TapeD × Value} (h : M.OwnT w lo hi v qs) (hown : w'.ownsRow lo 36 4 v' (qs.length + 1) (M.cellsT qs ++ M.tcells q)) (hg : w.grownBy w' v.ownBlock) (ho : M.OwnS w lo q.2 q.1.ss) (hq : ∀ g, q.2.ownBlock = some g → hi ≤ g) (hz : w'.heap.size ≤ hi') : M.OwnT w' lo hi' v' (qs ++ [q]) := by
  have tr : ∀ p : M.TapeD × Value, M.OwnS w lo p.2 p.1.ss → M.OwnS w' lo p.2 p.1.ss := fun p hp => hp.but hg (fun j hj e => by
    obtain ⟨-, h0 | ⟨g, cap, cur, rfl, -, hgh, -⟩⟩ := h.row
    · rw [h0.1] at e; cases e
    · obtain rfl := Option.some.inj e
      obtain ⟨-, h1 | ⟨g', cap', cur', e', -, hh', -⟩⟩ := hp
      · rw [h1.1] at hj; cases hj
      · rw [e'] at hj
        have := Option.some.inj hj
        simp only at this
        rw [this, hgh] at hh'
        have := Option.some.inj hh'
        simp at this)
  have each : ∀ p ∈ qs ++ [q], M.OwnS w' lo p.2 p.1.ss := fun p hp => by
    rcases List.mem_append.1 hp with h1 | h1
    · exact tr p (h.each p h1).1
    · obtain rfl := List.mem_singleton.1 h1
      exact tr p ho
  refine ⟨?_, fun g hgv => Nat.lt_of_lt_of_le (World.ownsRow.lt hown g hgv).2 hz, fun p hp => ⟨each p hp, fun g hgp => Nat.lt_of_lt_of_le (World.ownsRow.lt (each p hp) g hgp).2 hz⟩, M.apart_snoc h.apart (fun p hp g hgp e => by have h1 := (h.each p hp).2 g hgp; have h2 := hq g e; omega)⟩
  rw [List.length_append, M.cellsT_app, M.cellsT_one]
  exact hown
theorem M.OwnT.lenN {w : World} {lo hi n : Nat} {v : Value} {qs : List (M.TapeD × Value)} (h : M.OwnT w lo hi v qs) (hn : qs.length = n) : ∃ a c, v = .slice a n c := by
  subst hn
  exact h.len

set_option maxRecDepth 100000 in
set_option maxHeartbeats 3200000 in
theorem iEachC_any (w : World) (a : Option Addr) (n c : Nat) (ts : List M.TapeD) (h : M.Tps w a n c ts) (hok : ∀ t ∈ ts, ∀ s ∈ t.ss, s.size ≤ 100000000) (hl : n + M.tln ts ≤ 1048576) :
    Calls Try.prog 49 #[.slice a n c, .func (.func 50) #[] #[]] w fun e w' => ∃ (v : Value) (qs : List (M.TapeD × Value)), e = .returned v ∧ qs.map Prod.fst = ts ∧ M.OwnT w' w.heap.size w'.heap.size v qs ∧ Below w.heap.size w w' := by
  obtain ⟨i0, hi, hz0, hz1, hz2⟩ := info_parts Try.infoTp
  have HF := M.hl h
  have HOK := M.hl hok
  have HN : Hid (n = ts.length) := h.1
  clear h hok
  go_enter Try.func49, Try.ntmps49
  go_wp2
  go_loopw [5, 10] (fun v i wr => ∃ (k : Nat) (qs : List (M.TapeD × Value)), i = .int .i64 k ∧ k ≤ n ∧ Hid (qs.map Prod.fst = ts.take k) ∧ Hid (M.OwnT wr w.heap.size wr.heap.size v qs) ∧ Hid (Below w.heap.size w wr)) (fun _ i _ => n - (intOf i).toNat)
  case atStart => exact ⟨0, [], rfl, Nat.zero_le _, rfl, M.OwnT.nil _ _ _, Below.refl _ _⟩
  case round =>
    obtain ⟨k, qs, rfl, hk, HM, HO, HBr⟩ := hrel
    have hql : qs.length = k := by
      have := congrArg List.length HM.out
      simp only [List.length_map, List.length_take] at this
      rw [← HN.out] at this
      omega
    have HQL := M.hl hql
    by_cases hlt : k < n
    · obtain ⟨b, off, t, rfl, hfk, hat⟩ := (HF.out.below HBr.out).at hlt
      have HFK := M.hl hfk
      have ho := HOK.out t (List.mem_of_getElem? hfk)
      have htl := M.tln_take hfk
      have hn1 : t.ss.length ≤ 1048576 := by
        have h2 : M.tln ts = M.tln (ts.take (k + 1)) + M.tln (ts.drop (k + 1)) := by rw [← M.tln_app, List.take_append_drop]
        omega
      obtain ⟨x, ss, y, z⟩ := t
      obtain ⟨c0, ⟨a', n', c', c1, hs, -⟩, c2, c3⟩ := hat
      simp only at c0 c1 c2 c3 hs ho hn1
      have hsz := HBr.out.size
      obtain ⟨va, vc, rfl⟩ := HO.out.lenN hql
      have BX : Hid (∀ o, Below wr.heap.size wr (wr.alloc o)) := fun o => (Below.refl _ _).alloc (Nat.le_refl _) _
      have CT : Hid (∀ o, Calls Try.prog 50 #[.agg #[.int .i64 x, .slice a' n' c', .int .i64 y, .int .i64 z]] (wr.alloc o) fun e w' => ∃ u, e = .returned (.agg #[.int .i64 x, u, .int .i64 y, .int .i64 z]) ∧ M.OwnS w' (wr.heap.size + 1) u ss ∧ Below (wr.alloc o).heap.size (wr.alloc o) w') := fun o => by
        have := iCopied_any (wr.alloc o) a' n' c' ss x y z (hs.below (BX.out o)) ho (by rw [hs.1]; exact hn1)
        simpa using this
      clear hs hfk ho htl hn1 hql
      go_wp2_with fail
      refine (CT.out _).mono ?_
      rintro e w5 ⟨u, rfl, hOu, hb5⟩
      obtain ⟨ua, uc, rfl⟩ := hOu.len
      have B5 : Hid (Below wr.heap.size wr w5) := (BX.out _).trans (hb5.mono (by simp))
      have O5 := HO.out.below B5.out
      have OU := M.hl (hOu.lower (show w.heap.size ≤ wr.heap.size + 1 by omega))
      have HUB : Hid (∀ g, (Value.slice ua ss.length uc).ownBlock = some g → wr.heap.size ≤ g) := fun g hg => by have := (World.ownsRow.lt hOu g hg).1; omega
      have hsz5 := B5.out.size
      have hrow := O5.row
      rw [HQL.out] at hrow
      have O5' := M.hl O5
      clear hb5 hOu O5 c0 c1 c2 c3
      go_wp2_with (at_builtin; refine wpList_append_own _ rfl (.tmp 14) (.tmp 18) 23 rfl w.heap.size 36 i0 (.agg #[.int .i64 0, .slice none 0 0, .int .i64 0, .int .i64 0]) 4 48 Try.underlying23 hi hz0 hz1 hz2 rfl (by decide) _ _ _ rfl (World.ownsRow.alloc hrow _) ⟨w5.heap.size, 0, none⟩ 1 1 (M.tcells (⟨x, ss, y, z⟩, .slice ua ss.length uc)) rfl rfl (M.four_t _ _ _ _ _ _ _ ⟨rfl, rfl, rfl⟩) ?c2 ?c3 ?c4 ?c5 ?_)
      case c2 =>
        intro v hv
        simp [M.tcells] at hv
        rcases hv with rfl | rfl | rfl | rfl <;> rfl
      case c3 => unfold maxLen; omega
      case c4 => omega
      case c5 => simp; omega
      intro v' w6 hown' hgrow _
      have hgall : w5.grownBy w6 (Value.slice va k vc).ownBlock := ((World.grownBy_alloc w5 _ none).but _).trans hgrow
      have HO6 : Hid (M.OwnT w6 w.heap.size w6.heap.size v' (qs ++ [(⟨x, ss, y, z⟩, .slice ua ss.length uc)])) := O5'.out.more (by rw [HQL.out]; exact hown') hgall OU.out HUB.out (Nat.le_refl _)
      have HB5 : Hid (Below w.heap.size w w5) := HBr.out.trans (B5.out.mono hsz)
      have HB6 : Hid (Below w.heap.size w w6) := HB5.out.grown hgall HB5.out.size (fun j hj => (World.ownsRow.lt hrow j hj).1)
      have HM6 : Hid ((qs ++ [((⟨x, ss, y, z⟩ : M.TapeD), Value.slice ua ss.length uc)]).map Prod.fst = ts.take (k + 1)) := by
        show _ = _
        rw [List.map_append, HM.out, M.take_snocG HFK.out]
        rfl
      clear hown' hgrow hgall hrow hsz5
      go_wp2
      go_roundw
      case rel => exact ⟨k + 1, _, by go_num, by omega, HM6, HO6, HB6⟩
      case measure => simp [intOf]; omega
    · have hall : ts.take k = ts := List.take_of_length_le (by have := HN.out; omega)
      have HM2 : Hid (qs.map Prod.fst = ts) := by have := HM.out; rwa [hall] at this
      clear hall hql
      go_wp2
      go_ret
      exact ⟨_, qs, rfl, HM2.out, HO.out, HBr.out⟩

set_option maxRecDepth 100000 in
set_option maxHeartbeats 3200000 in
theorem iEachS_any (w : World) (a : Option Addr) (n c : Nat) (ts : List M.TapeD) (h : M.Tps w a n c ts) (hok : ∀ t ∈ ts, ∀ s ∈ t.ss, s.size ≤ 100000000) (hl : n + M.tln ts ≤ 1048576) :
    Calls Try.prog 49 #[.slice a n c, .func (.func 60) #[] #[]] w fun e w' => ∃ (v : Value) (qs : List (M.TapeD × Value)), e = .returned v ∧ qs.map Prod.fst = ts.map M.tsync ∧ M.OwnT w' w.heap.size w'.heap.size v qs ∧ Below w.heap.size w w' := by
  obtain ⟨i0, hi, hz0, hz1, hz2⟩ := info_parts Try.infoTp
  have HF := M.hl h
  have HOK := M.hl hok
  have HN : Hid (n = ts.length) := h.1
  clear h hok
  go_enter Try.func49, Try.ntmps49
  go_wp2
  go_loopw [5, 10] (fun v i wr => ∃ (k : Nat) (qs : List (M.TapeD × Value)), i = .int .i64 k ∧ k ≤ n ∧ Hid (qs.map Prod.fst = (ts.take k).map M.tsync) ∧ Hid (M.OwnT wr w.heap.size wr.heap.size v qs) ∧ Hid (Below w.heap.size w wr)) (fun _ i _ => n - (intOf i).toNat)
  case atStart => exact ⟨0, [], rfl, Nat.zero_le _, rfl, M.OwnT.nil _ _ _, Below.refl _ _⟩
  case round =>
    obtain ⟨k, qs, rfl, hk, HM, HO, HBr⟩ := hrel
    have hql : qs.length = k := by
      have := congrArg List.length HM.out
      simp only [List.length_map, List.length_take] at this
      rw [← HN.out] at this
      omega
    have HQL := M.hl hql
    by_cases hlt : k < n
    · obtain ⟨b, off, t, rfl, hfk, hat⟩ := (HF.out.below HBr.out).at hlt
      have HFK := M.hl hfk
      have ho := HOK.out t (List.mem_of_getElem? hfk)
      have htl := M.tln_take hfk
      have hn1 : t.ss.length ≤ 1048576 := by
        have h2 : M.tln ts = M.tln (ts.take (k + 1)) + M.tln (ts.drop (k + 1)) := by rw [← M.tln_app, List.take_append_drop]
        omega
      obtain ⟨x, ss, y, z⟩ := t
      obtain ⟨c0, ⟨a', n', c', c1, hs, -⟩, c2, c3⟩ := hat
      simp only at c0 c1 c2 c3 hs ho hn1
      have hsz := HBr.out.size
      obtain ⟨va, vc, rfl⟩ := HO.out.lenN hql
      have BX : Hid (∀ o, Below wr.heap.size wr (wr.alloc o)) := fun o => (Below.refl _ _).alloc (Nat.le_refl _) _
      have CT : Hid (∀ o, Calls Try.prog 60 #[.agg #[.int .i64 x, .slice a' n' c', .int .i64 y, .int .i64 z]] (wr.alloc o) fun e w' => ∃ u, e = .returned (.agg #[.int .i64 x, u, .int .i64 (ss.length : Int), .int .i64 z]) ∧ M.OwnS w' (wr.heap.size + 1) u ss ∧ Below (wr.alloc o).heap.size (wr.alloc o) w') := fun o => by
        have := iSynced_any (wr.alloc o) a' n' c' ss x y z (hs.below (BX.out o)) ho (by rw [hs.1]; exact hn1)
        simpa using this
      clear hs hfk ho htl hn1 hql
      go_wp2_with fail
      refine (CT.out _).mono ?_
      rintro e w5 ⟨u, rfl, hOu, hb5⟩
      obtain ⟨ua, uc, rfl⟩ := hOu.len
      have B5 : Hid (Below wr.heap.size wr w5) := (BX.out _).trans (hb5.mono (by simp))
      have O5 := HO.out.below B5.out
      have OU := M.hl (hOu.lower (show w.heap.size ≤ wr.heap.size + 1 by omega))
      have HUB : Hid (∀ g, (Value.slice ua ss.length uc).ownBlock = some g → wr.heap.size ≤ g) := fun g hg => by have := (World.ownsRow.lt hOu g hg).1; omega
      have hsz5 := B5.out.size
      have hrow := O5.row
      rw [HQL.out] at hrow
      have O5' := M.hl O5
      clear hb5 hOu O5 c0 c1 c2 c3
      go_wp2_with (at_builtin; refine wpList_append_own _ rfl (.tmp 14) (.tmp 18) 23 rfl w.heap.size 36 i0 (.agg #[.int .i64 0, .slice none 0 0, .int .i64 0, .int .i64 0]) 4 48 Try.underlying23 hi hz0 hz1 hz2 rfl (by decide) _ _ _ rfl (World.ownsRow.alloc hrow _) ⟨w5.heap.size, 0, none⟩ 1 1 (M.tcells (⟨x, ss, (ss.length : Int), z⟩, .slice ua ss.length uc)) rfl rfl (M.four_t _ _ _ _ _ _ _ ⟨rfl, rfl, rfl⟩) ?c2 ?c3 ?c4 ?c5 ?_)
      case c2 =>
        intro v hv
        simp [M.tcells] at hv
        rcases hv with rfl | rfl | rfl | rfl <;> rfl
      case c3 => unfold maxLen; omega
      case c4 => omega
      case c5 => simp; omega
      intro v' w6 hown' hgrow _
      have hgall : w5.grownBy w6 (Value.slice va k vc).ownBlock := ((World.grownBy_alloc w5 _ none).but _).trans hgrow
      have HO6 : Hid (M.OwnT w6 w.heap.size w6.heap.size v' (qs ++ [(⟨x, ss, (ss.length : Int), z⟩, .slice ua ss.length uc)])) := O5'.out.more (by rw [HQL.out]; exact hown') hgall OU.out HUB.out (Nat.le_refl _)
      have HB5 : Hid (Below w.heap.size w w5) := HBr.out.trans (B5.out.mono hsz)
      have HB6 : Hid (Below w.heap.size w w6) := HB5.out.grown hgall HB5.out.size (fun j hj => (World.ownsRow.lt hrow j hj).1)
      have HM6 : Hid ((qs ++ [((⟨x, ss, (ss.length : Int), z⟩ : M.TapeD), Value.slice ua ss.length uc)]).map Prod.fst = (ts.take (k + 1)).map M.tsync) := by
        show _ = _
        rw [List.map_append, HM.out, M.take_snocG HFK.out]
        rw [List.map_append]; rfl
      clear hown' hgrow hgall hrow hsz5
      go_wp2
      go_roundw
      case rel => exact ⟨k + 1, _, by go_num, by omega, HM6, HO6, HB6⟩
      case measure => simp [intOf]; omega
    · have hall : ts.take k = ts := List.take_of_length_le (by have := HN.out; omega)
      have HM2 : Hid (qs.map Prod.fst = ts.map M.tsync) := by have := HM.out; rwa [hall] at this
      clear hall hql
      go_wp2
      go_ret
      exact ⟨_, qs, rfl, HM2.out, HO.out, HBr.out⟩
end Go.Proofs.Ytmafkcnnhkkleaa
