/-
  What slices.Clone of tapes, leftOf and TapesCrash of the program do.
-/
import Derived.Test.YtmafkcnnhkkleabSCopyTp
import Derived.Test.YtmafkcnnhkkleabITapesR
import Derived.Laws.Cover3
namespace Go.Proofs.Ytmafkcnnhkkleab
open Go.RowKit Go.Deep

/-- How many blocks a crash leaves of a tape. -/
def M.leftN (t : M.TapeD) (k : Int) : Nat := min t.ss.length (t.syn.toNat + k.toNat)
/-- The tape with those blocks alone, and with the number of these. -/
def M.tleft (t : M.TapeD) (k : Int) : M.TapeD := ⟨t.lab, t.ss.take (M.leftN t k), t.syn, t.room⟩
def M.tcrash (t : M.TapeD) (k : Int) : M.TapeD := ⟨t.lab, t.ss.take (M.leftN t k), (M.leftN t k : Int), t.room⟩
theorem M.tcrash_eq (t : M.TapeD) (k : Int) : M.tsync (M.tleft t k) = M.tcrash t k := by
  unfold M.tsync M.tleft M.tcrash
  simp only [List.length_take]
  rw [Nat.min_eq_left (show M.leftN t k ≤ t.ss.length from Nat.min_le_left _ _)]
def M.tz : M.TapeD := ⟨0, [], 0, 0⟩
/-- The first k tapes, shortened. -/
def M.lefts (ts : List M.TapeD) (ks : List Int) (k : Nat) : List M.TapeD := (List.range k).map fun i => M.tleft (ts[i]?.getD M.tz) (ks[i]?.getD 0)
theorem M.lefts_succ {ts : List M.TapeD} {ks : List Int} {k : Nat} {t : M.TapeD} (h : ts[k]? = some t) : M.lefts ts ks (k + 1) = M.lefts ts ks k ++ [M.tleft t (ks[k]?.getD 0)] := by
  unfold M.lefts
  rw [List.range_succ, List.map_append]
  simp [h]
theorem M.lefts_len (ts : List M.TapeD) (ks : List Int) (k : Nat) : (M.lefts ts ks k).length = k := by simp [M.lefts]
/-- The tapes that TapesCrash tells. -/
def M.crashT (ts : List M.TapeD) (ks : List Int) : List M.TapeD := if 400 < ts.length ∨ 400 < ks.length then [] else if M.tapesR ts = true then (M.lefts ts ks ts.length).map M.tsync else ts
theorem M.lefts_tln (ts : List M.TapeD) (ks : List Int) : ∀ k, k ≤ ts.length → M.tln (M.lefts ts ks k) ≤ M.tln (ts.take k)
  | 0, _ => by simp [M.lefts, M.tln]
  | k + 1, h => by
    have hk := List.getElem?_eq_getElem (l := ts) (i := k) (by omega)
    rw [M.lefts_succ hk, M.tln_app, M.tln_one, M.tln_take hk]
    have := M.lefts_tln ts ks k (by omega)
    have : (M.tleft ts[k] (ks[k]?.getD 0)).ss.length ≤ ts[k].ss.length := by
      unfold M.tleft
      simp only [List.length_take]
      exact Nat.min_le_right _ _
    omega

theorem M.OwnT.readT {w : World} {b off : Nat} {p : M.TapeD × Value} (h0 : w.cell? ⟨b, off, none⟩ = some (.int .i64 p.1.lab)) (h1 : w.cell? ⟨b, off + 1, none⟩ = some p.2) (h2 : w.cell? ⟨b, off + 2, none⟩ = some (.int .i64 p.1.syn)) (h3 : w.cell? ⟨b, off + 3, none⟩ = some (.int .i64 p.1.room)) (hv : ∃ a n c, p.2 = .slice a n c ∧ M.Strs w a n c p.1.ss ∧ (a = none → c = 0)) : M.TpAt w b off p.1 := by
  obtain ⟨a, n, c, e, hs, hz⟩ := hv
  exact ⟨h0, ⟨a, n, c, by rw [h1, e], hs, hz⟩, h2, h3⟩

theorem M.eqlNil (W : World) (ad : Addr) (n c : Nat) : (binOp .eql 25 (.slice (some ad) n c) (.slice none 0 0)).run Try.prog W = .ok (.bool false) W := by
  simp only [binOp]
  simp [run_equal_slice_nil W 25 47 (some ad) n c Try.underlying25]
/-- The cells of a slice of tapes, as a list, with where the blocks lie. -/
theorem M.Tps.cellsS {w : World} {ad : Addr} {n c : Nat} {ts : List M.TapeD} (h : M.Tps w (some ad) n c ts) : ∃ qs : List (M.TapeD × Value), qs.map Prod.fst = ts ∧ (∀ j u, (M.cellsT qs)[j]? = some u → w.cell? (ad.add j) = some u) ∧ ∀ p ∈ qs, ∃ a n c, p.2 = .slice a n c ∧ M.Strs w a n c p.1.ss ∧ (a = none → c = 0) := by
  obtain ⟨qs, h1, h2, h3⟩ := h.cells
  refine ⟨qs, h1, h2, fun p hp => ?_⟩
  obtain ⟨i, hi⟩ := List.getElem?_of_mem hp
  have hil := (List.getElem?_eq_some_iff.1 hi).1
  have hn : n = qs.length := by rw [h.1, ← h1, List.length_map]
  obtain ⟨b, off, t, e, ht, c0, ⟨a', n', c', c1, hs, hz⟩, c2, c3⟩ := h.at (k := i) (by omega)
  obtain rfl := Option.some.inj e
  have hpt : p.1 = t := by
    have : (qs.map Prod.fst)[i]? = some p.1 := by rw [List.getElem?_map, hi]; rfl
    rw [h1] at this
    exact Option.some.inj (this.symm.trans ht)
  have hc := h2 (i * 4 + 1) p.2 (by
    rw [M.cellsT_get qs i hil 1 (by omega), (List.getElem?_eq_some_iff.1 hi).2]
    rfl)
  rw [Addr.add_lit, show off + (i * 4 + 1) = off + i * 4 + 1 by omega, c1] at hc
  exact ⟨a', n', c', (Option.some.inj hc).symm, by rw [hpt]; exact hs, hz⟩

set_option maxRecDepth 100000 in
set_option maxHeartbeats 1600000 in
theorem iCloneTp_any (w : World) (ad : Addr) (n c : Nat) (ts : List M.TapeD) (h : M.Tps w (some ad) n c ts) (hl : n ≤ 1048576) :
    Calls Try.prog 28 #[.slice (some ad) n c] w fun e w' => ∃ (g cap : Nat) (qs : List (M.TapeD × Value)), e = .returned (.slice (some ⟨g, 0, none⟩) n cap) ∧ n ≤ cap ∧ cap ≤ maxLen ∧ w.heap.size ≤ g ∧ qs.map Prod.fst = ts ∧ M.Row w' g 47 (cap * 4) ∧ M.PAt w' g qs ∧ (∀ p ∈ qs, ∃ a n c, p.2 = .slice a n c ∧ M.Strs w a n c p.1.ss ∧ (a = none → c = 0)) ∧ Below w.heap.size w w' := by
  obtain ⟨i0, hi, hz0, hz1, hz2⟩ := info_parts Try.infoTp
  have HF := M.hl h
  have HN : Hid (n = ts.length) := h.1
  have BO : Hid (∀ o, Below w.heap.size w (w.alloc o)) := fun o => (Below.refl _ _).alloc (Nat.le_refl _) _
  clear h
  obtain ⟨qs, hq1, hq2, hq3⟩ := HF.out.cellsS
  have hql : qs.length = n := by rw [HN.out, ← hq1, List.length_map]
  have HQ1 := M.hl hq1
  have HQL := M.hl hql
  have HQ3 := M.hl hq3
  have HSRC : Hid (∀ o, ∀ j u, (M.cellsT qs)[j]? = some u → (w.alloc o).cell? (ad.add j) = some u) := fun o => by
    intro j u hj
    have h0 := hq2 j u hj
    have hb : ad.block < w.heap.size := by
      have := World.block_lt_of_cell? w _ h0
      unfold Addr.add at this
      split at this <;> simpa using this
    have := (BO.out o).cell (p := ad.add j) (by unfold Addr.add; split <;> simpa using hb)
    exact this.trans h0
  have HONE : Hid (∀ u ∈ M.cellsT qs, u.oneCell' = true) := fun u hu => by
    obtain ⟨p, hp, hup⟩ := List.mem_flatMap.1 hu
    obtain ⟨a1, n1, c1, e, -⟩ := hq3 p hp
    simp [M.tcells] at hup
    rcases hup with rfl | rfl | rfl | rfl
    · rfl
    · rw [e]; rfl
    · rfl
    · rfl
  clear hq1 hq2 hq3 hql
  go_enter Try.func28, Try.ntmps28
  have hnil := fun W => M.eqlNil W ad n c
  go_wp2_with (at_builtin; refine wpList_append_own _ rfl (.tmp 5) (.tmp 6) 25 rfl w.heap.size 47 i0 (.agg #[.int .i64 0, .slice none 0 0, .int .i64 0, .int .i64 0]) 4 48 Try.underlying25 hi hz0 hz1 hz2 rfl (by decide) (.slice (some ⟨w.heap.size, 0, none⟩) 0 0) 0 [] rfl ?s1 ad n c (M.cellsT qs) rfl ?c1 ?s2 HONE.out ?c3 ?c4 ?c5 ?_)
  case s1 => exact M.emptyT w w.heap.size (Nat.le_refl _)
  case s2 => exact HSRC.out _
  case c1 => rw [M.cellsT_len, HQL.out]
  case c3 => unfold maxLen; omega
  case c4 => omega
  case c5 => simp
  intro v1 w1 hown hgrow hnn
  try simp only [Nat.zero_add, List.nil_append] at hown
  have B1 : Hid (Below w.heap.size w w1) := (BO.out _).grown hgrow (BO.out _).size (fun k hk => by have := Option.some.inj hk; simp at this; omega)
  obtain ⟨hl0, ⟨rfl, h0⟩ | ⟨g, cap, cur, rfl, hb, hh, hnc, hc, hz, ht⟩⟩ := hown
  · exact (hnn rfl).elim
  have HP1 : Hid (M.PAt w1 g qs) := M.pat_of hh (by rw [HQL.out]; exact ht)
  have HR1 : Hid (M.Row w1 g 47 (cap * 4)) := ⟨cur, hh, hz⟩
  clear hl0 hh hz ht hgrow hnn
  go_wp2
  go_ret
  exact ⟨g, cap, qs, rfl, hnc, hc, hb, HQ1.out, HR1.out, HP1.out, HQ3.out, B1.out⟩

theorem M.Strs.take {w : World} {a : Option Addr} {n c m : Nat} {ss : List ByteArray} (h : M.Strs w a n c ss) (hm : m ≤ n) : M.Strs w a m c (ss.take m) := h.pre m hm

set_option maxRecDepth 100000 in
set_option maxHeartbeats 3200000 in
theorem iLeftOf_any (w : World) (a : Option Addr) (n c : Nat) (ss : List ByteArray) (x y z k : Int) (h : M.Strs w a n c ss) (hz : a = none → c = 0) (hl : n ≤ 1048576) (hy0 : 0 ≤ y) (hy1 : y ≤ (n : Int)) :
    Calls Try.prog 29 #[.agg #[.int .i64 x, .slice a n c, .int .i64 y, .int .i64 z], .int .i64 k] w fun e w' => e = .returned (.agg #[.int .i64 x, .slice a (M.leftN ⟨x, ss, y, z⟩ k) c, .int .i64 y, .int .i64 z]) ∧ Below w.heap.size w w' := by
  have hn := h.1
  have hnc := h.2.1
  have hcm := h.2.2.1
  have HB : Hid (∀ o1 o2, Below w.heap.size w ((w.alloc o1).alloc o2)) := fun o1 o2 => ((Below.refl _ _).alloc (Nat.le_refl _) _).alloc (by simp) _
  obtain ⟨Y, rfl⟩ := Int.eq_ofNat_of_zero_le hy0
  obtain ⟨m, hm⟩ : ∃ m, m = M.leftN ⟨x, ss, (Y : Int), z⟩ k := ⟨_, rfl⟩
  have hmv : m = min n (Y + k.toNat) := by rw [hm]; unfold M.leftN; simp only [Int.toNat_natCast]; rw [← hn]
  rw [← hm]
  have hmn : m ≤ n := by omega
  have hmc : m ≤ c := by omega
  have e1 : (Y : Int) + min (max k 0) ((n : Int) - (Y : Int)) = (m : Int) := by omega
  have hcm2 : c ≤ 9223372036854775807 := by unfold maxLen at hcm; omega
  have E1 := M.hl e1
  clear h hm hn hcm hmv
  cases a with
  | none =>
    obtain rfl := hz rfl
    have hm0 : m = 0 := by omega
    have hn0 : n = 0 := by omega
    subst hm0 hn0
    have hY0 : Y = 0 := by omega
    subst hY0
    have hmx : min (max k 0) (0 : Int) = 0 := by omega
    clear hz hmn hmc hcm2 e1 E1 hnc hl hy0 hy1
    go_enter Try.func29, Try.ntmps29
    go_wp2
    refine bodyPost_ret (v := .agg #[.int .i64 x, .slice none 0 0, .int .i64 0, .int .i64 z]) (by simp [results, Try.results29, go_sem]) rfl ⟨rfl, ?_⟩
    exact HB.out _ _
  | some ad =>
    clear hz
    go_enter Try.func29, Try.ntmps29
    go_wp2
    refine bodyPost_ret (v := .agg #[.int .i64 x, .slice (some ad) m c, .int .i64 (Y : Int), .int .i64 z]) (by simp [results, Try.results29, go_sem]) rfl ⟨rfl, ?_⟩
    exact HB.out _ _
end Go.Proofs.Ytmafkcnnhkkleab
