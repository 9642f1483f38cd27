/-
  What filesInOrder of the program does: what stands in a map of files, rising by paths, in a row of its own.
-/
import Derived.Test.YtbmbcfnlpbbapagDoorSortWalk
import Derived.Test.YtbmbcfnlpbbapagDoorFindWalks
import Derived.WalkKit
import Derived.WalkSpells
import Derived.WalkLawsBesides
import Derived.Maps.RangeWalk
namespace Go.Proofs.YtbmbcfnlpbbapagDoor
open Go.RowKit Go.Maps

/-- A map of files by their paths: which files it holds. -/
structure M.Holder (D : DataW M.FileD) (P : M.FileD → Prop) : Prop where
  iff : ∀ f, (∀ z, D.atKey (M.key f.path) z = .held f) ↔ P f
  key : ∀ kl f, (∀ z, D.atKey kl z = .held f) → kl = M.key f.path
/-- What has been met of it. -/
structure M.Met (P : M.FileD → Prop) (left : Lit → Bool) (gs : List M.FileD) : Prop where
  mem : ∀ f ∈ gs, P f ∧ left (M.key f.path) = false
  rest : ∀ f, P f → left (M.key f.path) = true ∨ f ∈ gs
  apart : gs.Pairwise fun f g => f.path ≠ g.path
theorem M.sameKey_self (p : ByteArray) : (M.key p).sameKey (M.key p) = true := by simp [M.key, Lit.sameKey]
theorem M.sameKey_iff {p q : ByteArray} : (M.key p).sameKey (M.key q) = true ↔ p = q :=
  ⟨fun h => M.key_inj (WideAt.sameKey_eq h), fun h => by rw [h]; exact M.sameKey_self q⟩
theorem M.Met.start {D : DataW M.FileD} {P : M.FileD → Prop} (h : M.Holder D P) : M.Met P (Maps.has D) [] :=
  ⟨fun _ h => by simp at h, fun f hf => .inl (has_true_of_atKey ((h.iff f).2 hf)), List.Pairwise.nil⟩
theorem M.Met.step {D : DataW M.FileD} {P : M.FileD → Prop} {left : Lit → Bool} {gs : List M.FileD} {c : M.FileD} (h : M.Met P left gs) (hD : M.Holder D P) (hc : ∀ z, D.atKey (M.key c.path) z = .held c) (hl : left (M.key c.path) = true) :
    M.Met P (fun z => left z && !z.sameKey (M.key c.path)) (gs ++ [c]) := by
  refine ⟨fun f hf => ?_, fun f hf => ?_, ?_⟩
  · rcases List.mem_append.1 hf with hf | hf
    · exact ⟨(h.mem f hf).1, by simp [(h.mem f hf).2]⟩
    · obtain rfl := List.mem_singleton.1 hf
      exact ⟨(hD.iff f).1 hc, by simp [M.sameKey_self]⟩
  · rcases h.rest f hf with h1 | h1
    · by_cases e : f.path = c.path
      · have h2 := (hD.iff f).2 hf .nil
        rw [e, hc] at h2
        have : f = c := by simpa using h2.symm
        exact .inr (by simp [this])
      · refine .inl ?_
        have : (M.key f.path).sameKey (M.key c.path) = false := by
          cases hs : (M.key f.path).sameKey (M.key c.path)
          · rfl
          · exact absurd (M.sameKey_iff.1 hs) e
        simp [h1, this]
    · exact .inr (List.mem_append_left _ h1)
  · rw [List.pairwise_append]
    refine ⟨h.apart, by simp, fun f hf g hg e => ?_⟩
    obtain rfl := List.mem_singleton.1 hg
    have := (h.mem f hf).2
    rw [e, hl] at this
    cases this

theorem M.five_new (w : World) (c : M.FileD) (T : TypeId) : ∀ j u, (M.fcells c)[j]? = some u → (w.alloc (.cells #[.string c.path, .bool c.dir, .int .i64 c.mode, .int .i64 c.time, .string c.data] T)).cell? ((⟨w.heap.size, 0, none⟩ : Addr).add j) = some u := by
  intro j u hj
  have e : (⟨w.heap.size, 0, none⟩ : Addr).add j = ⟨w.heap.size, j, none⟩ := by
    unfold Addr.add
    split
    · next h => rw [h]
    · simp
  rw [e]
  exact M.boxed (Below.refl _ _) j u (by simpa [M.fcells] using hj)
theorem M.key_inv {key : Value} {kl : Lit} (h : keyOf Tryd.prog 9 key = some kl) : ∃ s, key = .string s := by
  cases key <;> simp [keyOf, Tryd.underlying9, mapKey] at h
  exact ⟨_, rfl⟩
theorem M.Own.base {w : World} {b b' : Nat} {T : TypeId} {v : Value} {gs : List M.FileD} (h : M.Own w b T v gs) (hb : b' ≤ b) : M.Own w b' T v gs := by
  obtain ⟨hl, h | ⟨g, cp, cur, hv, hg, hh, hn, hc, hz, ht⟩⟩ := h
  · exact ⟨hl, .inl h⟩
  · exact ⟨hl, .inr ⟨g, cp, cur, hv, Nat.le_trans hb hg, hh, hn, hc, hz, ht⟩⟩
theorem M.Own.block {w : World} {b : Nat} {T : TypeId} {v : Value} {gs : List M.FileD} (h : M.Own w b T v gs) : ∀ j, v.ownBlock = some j → b ≤ j := by
  obtain ⟨hl, ⟨rfl, _⟩ | ⟨g, cp, cur, rfl, hg, hh, hn, hc, hz, ht⟩⟩ := h
  · intro j hj; simp [Value.ownBlock] at hj
  · intro j hj
    have : g = j := by simpa [Value.ownBlock] using hj
    omega

set_option maxRecDepth 100000 in
set_option maxHeartbeats 3200000 in
theorem iOrder_any (w : World) (B n : Nat) (D : DataW M.FileD) (P : M.FileD → Prop) (h : w.ownsMap Tryd.prog 9 M.fileElem B n D) (hD : M.Holder D P) (hn : n ≤ 1000) (hs : ∀ f, P f → f.path.size ≤ 150 ∧ f.data.size ≤ 1200) :
    Calls Tryd.prog 37 #[.map (some B)] w fun e w' => ∃ v gs, e = .returned v ∧ M.Own w' w.heap.size 31 v gs ∧ M.Rising gs ∧ (∀ f, f ∈ gs ↔ P f) ∧ Below w.heap.size w w' := by
  have HD : Hid (M.Holder D P) := hD
  have HSZ : Hid (∀ f, P f → f.path.size ≤ 150 ∧ f.data.size ≤ 1200) := hs
  obtain ⟨i0, hi, hz0, hz1, hz2⟩ := info_parts Tryd.infoF
  have HO : Hid (w.ownsMap Tryd.prog 9 M.fileElem B n D) := h
  clear h hD hs
  go_enter Tryd.func37, Tryd.ntmps37
  go_wp2_with (at_range; refine wpList_range_own _ rfl _ 47 rfl 9 31 M.keyS Tryd.underlying47 M.fileElem B n D rfl HO.out ?_)
  intro w1 hrg hgr hsz
  have HRG : Hid (w1.ranges Tryd.prog 9 M.fileElem B w.heap.size n D (Maps.has D) (Maps.size D)) := hrg
  have B1 : Hid (Below w.heap.size w w1) := ⟨hgr.os, hgr.tape, hgr.output, hgr.size, fun k hk => hgr.block k hk (by simp)⟩
  have HS1 : Hid (w1.heap.size = w.heap.size + 1) := hsz
  have HSD : Hid (Maps.size D ≤ n) := hrg.owns.size_le
  have HLT : Hid (B < w.heap.size) := HO.out.lt
  clear hrg hgr hsz
  go_wp2
  go_loopw [3] (fun v wr => ∃ (left : Lit → Bool) (cnt : Nat) (gs : List M.FileD), gs.length + cnt ≤ n ∧ Hid (wr.ranges Tryd.prog 9 M.fileElem B w.heap.size n D left cnt) ∧ Hid (M.Met P left gs) ∧ Hid (M.Own wr (w.heap.size + 1) 31 v gs) ∧ Hid (w.heap.size + 1 ≤ wr.heap.size) ∧ Hid (Below w.heap.size w wr)) (fun _ wr => wr.rangeLeft B w.heap.size)
  case atStart => exact ⟨Maps.has D, Maps.size D, [], by have := HSD.out; simpa using this, HRG, M.Met.start HD.out, World.ownsRow_nil _ _ _ _, Nat.le_of_eq HS1.out.symm, B1⟩
  case round =>
    obtain ⟨left, cnt, gs, hcn, HRr, HMr, HOr, HSr, HBr⟩ := hrel
    go_wp2_with (at_next; refine wpList_next_ranges _ rfl _ rfl 9 M.keyS M.fileElem (fun p : ByteArray => .string p) (fun f : M.FileD => .agg #[.string f.path, .bool f.dir, .int .i64 f.mode, .int .i64 f.time, .string f.data]) ?ik ?iv B w.heap.size n D left cnt rfl HRr.out ?done ?more)
    case ik => intro key kl hk; exact M.key_inv hk
    case iv => intro v y hv; obtain ⟨f, hf, _⟩ := M.fileElem_inv hv; exact ⟨f, hf⟩
    case done =>
      intro h0 hl0
      have HG : Hid (∀ f, f ∈ gs ↔ P f) := fun f => ⟨fun hf => (HMr.out.mem f hf).1, fun hf => (HMr.out.rest f hf).resolve_left (by rw [hl0]; simp)⟩
      clear hl0
      have hlen : gs.length ≤ 1048576 := by omega
      go_wp2_with fail
      refine (iSort_any wr (w.heap.size + 1) _ gs HOr.out HMr.out.apart hlen).mono ?_
      rintro e w3 ⟨rfl, gs', hperm, hri, hown, hgr⟩
      have HFIN : Hid (M.Own w3 w.heap.size 31 u3 gs' ∧ M.Rising gs' ∧ (∀ f, f ∈ gs' ↔ P f) ∧ Below w.heap.size w w3) :=
        ⟨hown.base (Nat.le_succ _), hri, fun f => hperm.mem_iff.trans (HG.out f), HBr.out.grown hgr HBr.out.size (fun j hj => Nat.le_trans (Nat.le_succ _) (HOr.out.block j hj))⟩
      clear hperm hri hown hgr
      go_wp2
      go_ret
      exact ⟨_, gs', rfl, HFIN.out⟩
    case more =>
      intro x c kl yd yp w2 cnt2 hkey hlk hv hat hrg2 hlt hg2 hs2 hen
      obtain ⟨c', hc', hy⟩ := M.fileElem_inv hv
      obtain rfl : yd = .held c' := congrArg Prod.fst hy
      obtain rfl : c = c' := by
        obtain ⟨p1, d1, m1, t1, x1⟩ := c
        obtain ⟨p2, d2, m2, t2, x2⟩ := c'
        simpa [M.fval] using hc'
      obtain rfl := HD.out.key kl c hat
      have hPc := (HD.out.iff c).1 hat
      have HM2 : Hid (M.Met P (fun z => left z && !z.sameKey (M.key c.path)) (gs ++ [c])) := HMr.out.step HD.out hat hlk
      have hszc := HSZ.out c hPc
      have HO2 : Hid (M.Own w2 (w.heap.size + 1) 31 u3 gs) := World.ownsRow.kept HOr.out hg2 (.inr (fun e => by have := HOr.out.block _ e; omega))
      have HR2 : Hid (w2.ranges Tryd.prog 9 M.fileElem B w.heap.size n D (fun z => left z && !z.sameKey (M.key c.path)) cnt2) := hrg2
      have HB2 : Hid (Below w.heap.size w w2) := HBr.out.grown hg2 HBr.out.size (fun j hj => by cases hj; exact Nat.le_refl _)
      have HS2 : Hid (w.heap.size + 1 ≤ w2.heap.size) := by show _ ≤ _; rw [hs2]; exact HSr.out
      have hC := fun W => iCopy_any c W (by have := hszc.1; omega) (by have := hszc.2; omega)
      unfold M.fval at hC
      have HC : Hid (∀ W, Calls Tryd.prog 32 #[.agg #[.string c.path, .bool c.dir, .int .i64 c.mode, .int .i64 c.time, .string c.data]] W fun e w' => e = .returned (.agg #[.string c.path, .bool c.dir, .int .i64 c.mode, .int .i64 c.time, .string c.data]) ∧ Below W.heap.size W w') := hC
      have HCN : Hid (cnt2 < cnt) := hlt
      have HLQ : Hid (wr.rangeLeft B w.heap.size = cnt) := HRr.out.left_eq
      clear hkey hlk hv hat hrg2 hg2 hs2 hc' hy hPc hszc hC hlt HMr HOr HRr HBr HSr
      go_wp2_with fail
      refine (HC.out _).mono ?_
      rintro e w3 ⟨rfl, hb⟩
      have hb3 : Below w2.heap.size w2 w3 := M.boxed_below hb
      have hg3 : w2.grownBy w3 none := ⟨hb3.os, hb3.tape, hb3.output, hb3.size, fun k hk _ => hb3.block k hk⟩
      have HO3 : Hid (M.Own w3 (w.heap.size + 1) 31 u3 gs) := World.ownsRow.kept HO2.out hg3 (by cases u3.ownBlock <;> simp)
      have HR3 : Hid (w3.ranges Tryd.prog 9 M.fileElem B w.heap.size n D (fun z => left z && !z.sameKey (M.key c.path)) cnt2) := HR2.out.kept hg3 (by simp) (by simp)
      have HB3 : Hid (Below w.heap.size w w3) := HB2.out.trans (hb3.mono HB2.out.size)
      have HS3 : Hid (w.heap.size + 1 ≤ w3.heap.size) := Nat.le_trans HS2.out hb3.size
      clear hb hb3 hg3 hen HO2 HR2 HB2 HS2
      go_wp2_with (at_builtin; refine wpList_append_own _ rfl (.tmp 12) (.tmp 15) 26 rfl (w.heap.size + 1) 31 i0 (.agg #[.string ⟨#[]⟩, .bool false, .int .i64 0, .int .i64 0, .string ⟨#[]⟩]) 5 56 Tryd.underlying26 hi hz0 hz1 hz2 rfl (by decide) _ _ _ rfl (World.ownsRow.alloc HO3.out _) ⟨w3.heap.size, 0, none⟩ 1 1 (M.fcells c) rfl rfl (M.five_new _ _ _) ?c2 ?c3 ?c4 ?c5 ?_)
      case c2 => exact M.oneCellF c
      case c3 => unfold maxLen; omega
      case c4 => omega
      case c5 => have := HS3.out; simp; omega
      intro v' w4 hown' hgrow _
      have HO4 : Hid (M.Own w4 (w.heap.size + 1) 31 v' (gs ++ [c])) := by
        show World.ownsRow _ _ _ _ _ _ _
        rw [← M.cellsF_snoc, List.length_append]; exact hown'
      have hgall : w3.grownBy w4 u3.ownBlock := ((World.grownBy_alloc w3 _ none).but _).trans hgrow
      have HR4 : Hid (w4.ranges Tryd.prog 9 M.fileElem B w.heap.size n D (fun z => left z && !z.sameKey (M.key c.path)) cnt2) := HR3.out.kept hgall (fun e => by have := HO3.out.block _ e.symm; have := HLT.out; omega) (fun e => by have := HO3.out.block _ e.symm; omega)
      have HB4 : Hid (Below w.heap.size w w4) := HB3.out.grown hgall HB3.out.size (fun j hj => Nat.le_trans (Nat.le_succ _) (HO3.out.block j hj))
      have HS4 : Hid (w.heap.size + 1 ≤ w4.heap.size) := Nat.le_trans HS3.out hgall.size
      clear hown' hgrow hgall HO3 HR3 HB3 HS3
      go_wp2
      go_roundw
      case rel => exact ⟨fun z => left z && !z.sameKey (M.key c.path), cnt2, gs ++ [c], by have := HCN.out; simp; omega, HR4, HM2, HO4, HS4, HB4⟩
      case measure => rw [HR4.out.left_eq, HLQ.out]; exact HCN.out
end Go.Proofs.YtbmbcfnlpbbapagDoor
