/-
  What toTapeS of the laws does: a row of tapes of the call's own.
-/
import Derived.Test.YtmafkcnnhkkleaaTapeTo
import Derived.Test.YtmafkcnnhkkleaaTapeSz
namespace Go.Proofs.Ytmafkcnnhkkleaa
open Go.RowKit

theorem M.co4 {W : World} {H i j : Nat} {v : Value} (h : i ≠ j) : (W.setCell ⟨H, i, none⟩ v).cell? ⟨H, j, none⟩ = W.cell? ⟨H, j, none⟩ := World.cell?_setCell_other _ _ _ _ (by intro e; simp only [Addr.mk.injEq] at e; omega)
/-- The cells of one tape more, each stored. -/
theorem M.PAt.push {w : World} {g k N : Nat} {T : TypeId} {ps : List (M.TapeD × Value)} {x y z : Int} {u : Value} {ss : List ByteArray} (h : M.PAt w g ps) (hr : M.Row w g T N) (hk : ps.length = k) (hN : k * 4 + 4 ≤ N) :
    M.PAt ((((w.setCell ⟨g, k * 4, none⟩ (.int .i64 x)).setCell ⟨g, k * 4 + 1, none⟩ u).setCell ⟨g, k * 4 + 2, none⟩ (.int .i64 y)).setCell ⟨g, k * 4 + 3, none⟩ (.int .i64 z)) g (ps ++ [(⟨x, ss, y, z⟩, u)]) := by
  intro i p hp
  by_cases e : i = k
  · subst e
    rw [← hk] at hp
    simp at hp
    subst hp
    obtain ⟨v0, g0⟩ := hr.cell (i := i * 4) (by omega)
    obtain ⟨v1, g1⟩ := hr.cell (i := i * 4 + 1) (by omega)
    obtain ⟨v2, g2⟩ := hr.cell (i := i * 4 + 2) (by omega)
    obtain ⟨v3, g3⟩ := hr.cell (i := i * 4 + 3) (by omega)
    refine ⟨?_, ?_, ?_, ?_⟩
    · rw [M.co4 (by omega), M.co4 (by omega), M.co4 (by omega), World.cell?_setCell_same _ _ _ g0]
    · rw [M.co4 (by omega), M.co4 (by omega), World.cell?_setCell_same _ _ _ ((M.co4 (by omega)).trans g1)]
    · rw [M.co4 (by omega), World.cell?_setCell_same _ _ _ ((M.co4 (by omega)).trans ((M.co4 (by omega)).trans g2))]
    · rw [World.cell?_setCell_same _ _ _ ((M.co4 (by omega)).trans ((M.co4 (by omega)).trans ((M.co4 (by omega)).trans g3)))]
  · have hi : i < (ps ++ [((⟨x, ss, y, z⟩ : M.TapeD), u)]).length := (List.getElem?_eq_some_iff.1 hp).1
    rw [List.length_append] at hi
    simp at hi
    have hi' : i < ps.length := by omega
    rw [List.getElem?_append_left hi'] at hp
    obtain ⟨c0, c1, c2, c3⟩ := h i p hp
    refine ⟨?_, ?_, ?_, ?_⟩
    · rw [M.co4 (by omega), M.co4 (by omega), M.co4 (by omega), M.co4 (by omega)]; exact c0
    · rw [M.co4 (by omega), M.co4 (by omega), M.co4 (by omega), M.co4 (by omega)]; exact c1
    · rw [M.co4 (by omega), M.co4 (by omega), M.co4 (by omega), M.co4 (by omega)]; exact c2
    · rw [M.co4 (by omega), M.co4 (by omega), M.co4 (by omega), M.co4 (by omega)]; exact c3
theorem M.apart_snoc {ps : List (M.TapeD × Value)} {p : M.TapeD × Value} (h : M.apart ps) (hp : ∀ q ∈ ps, ∀ g, q.2.ownBlock = some g → p.2.ownBlock ≠ some g) : M.apart (ps ++ [p]) := by
  unfold M.apart
  rw [List.pairwise_append]
  refine ⟨h, by simp, fun a ha b hb => ?_⟩
  obtain rfl := List.mem_singleton.1 hb
  exact hp a ha
/-- Tapes whose blocks are the call's own, above a place. -/
def M.ownAll (w : World) (lo : Nat) (ps : List (M.TapeD × Value)) : Prop := (∀ p ∈ ps, M.own1 w lo w.heap.size p) ∧ M.apart ps
theorem M.ownAll.below {w w' : World} {lo : Nat} {ps : List (M.TapeD × Value)} (h : M.ownAll w lo ps) (hb : Below w.heap.size w w') : M.ownAll w' lo ps :=
  ⟨fun p hp => ⟨(h.1 p hp).1.below hb, fun g hg => Nat.lt_of_lt_of_le ((h.1 p hp).2 g hg) hb.size⟩, h.2⟩
theorem M.ownAll.set {w : World} {lo H : Nat} {ps : List (M.TapeD × Value)} (h : M.ownAll w lo ps) (hH : H < lo) (j : Nat) (v : Value) : M.ownAll (w.setCell ⟨H, j, none⟩ v) lo ps :=
  ⟨fun p hp => ⟨(h.1 p hp).1.setLow hH j v, fun g hg => by have := (h.1 p hp).2 g hg; simpa [World.setCell] using this⟩, h.2⟩
theorem M.ownAll.snoc {w : World} {lo : Nat} {ps : List (M.TapeD × Value)} {p : M.TapeD × Value} (h : M.ownAll w lo ps) (ho : M.OwnS w lo p.2 p.1.ss) (hn : ∀ q ∈ ps, ∀ g, q.2.ownBlock = some g → p.2.ownBlock ≠ some g) : M.ownAll w lo (ps ++ [p]) :=
  ⟨fun q hq => by
    rcases List.mem_append.1 hq with h1 | h1
    · exact h.1 q h1
    · obtain rfl := List.mem_singleton.1 h1
      exact ⟨ho, fun g hg => (World.ownsRow.lt ho g hg).2⟩, M.apart_snoc h.2 hn⟩

set_option maxRecDepth 100000 in
set_option maxHeartbeats 3200000 in
theorem toTapeS_any (w : World) (a : Option Addr) (len cap : Nat) (ts : List M.TapeD) (h : M.Tps w a len cap ts) (hlen : len + M.tln ts ≤ 1048576) :
    Calls Try.prog 26 #[.slice a len cap] w fun e w' => ∃ (b : Nat) (ps : List (M.TapeD × Value)), e = .returned (.slice (some ⟨b, 0, none⟩) len len) ∧ ps.map Prod.fst = ts ∧ M.OwnT w' w.heap.size w'.heap.size (.slice (some ⟨b, 0, none⟩) len len) ps ∧ Below w.heap.size w w' := by
  obtain ⟨i0, hi, hz0, hz1, hz2⟩ := info_parts Try.infoTp
  have HF := M.hl h
  have HN : Hid (len = ts.length) := h.1
  clear h
  go_enter Try.func26, Try.ntmps26
  go_wp2_with (at_make; refine wpList_make_full _ rfl (.tmp 6) (.tmp 6) 23 rfl w.heap.size 36 i0 _ 4 Try.underlying23 hi hz0 hz1 .i64 .i64 _ _ len rfl rfl rfl rfl ?c3 ?c4 ?c5 ?_)
  case c3 => rw [hz2]; omega
  case c4 => unfold maxLen; omega
  case c5 => exact Nat.le_refl _
  intro w1 hown hgrow
  have hrow : M.Row w1 w.heap.size 36 (len * 4) := by
    obtain ⟨hl, h | ⟨g, cp, cur, hv, hb, hh, hn, hc, hz, ht⟩⟩ := hown
    · simp at h
    · simp only [Value.slice.injEq, Option.some.injEq, Addr.mk.injEq] at hv
      obtain ⟨⟨rfl, _, _⟩, _, rfl⟩ := hv
      exact ⟨cur, hh, hz⟩
  have hb1 : Below w.heap.size w w1 := ⟨hgrow.os, hgrow.tape, hgrow.output, hgrow.size, fun k hk => hgrow.block k hk (by simp)⟩
  have HROW := M.hl hrow
  have HB1 := M.hl hb1
  clear hown hgrow hrow hb1
  go_wp2
  go_loopw [4] (fun i wr => ∃ (k : Nat) (ps : List (M.TapeD × Value)), i = .int .i64 k ∧ k ≤ len ∧ Hid (M.Row wr w.heap.size 36 (len * 4)) ∧ Hid (ps.map Prod.fst = ts.take k) ∧ Hid (M.PAt wr w.heap.size ps) ∧ Hid (M.ownAll wr (w.heap.size + 1) ps) ∧ Hid (Below w.heap.size w wr)) (fun i _ => len - (intOf i).toNat)
  case atStart => exact ⟨0, [], rfl, Nat.zero_le _, HROW, rfl, (fun i p hp => by simp at hp), ⟨fun p hp => by simp at hp, List.Pairwise.nil⟩, HB1⟩
  case round =>
    obtain ⟨k, ps, rfl, hk, HRr, HM, HPr, HOr, HBr⟩ := hrel
    have HPL : Hid (ps.length = k) := by
      show _ = _
      have := congrArg List.length HM.out
      rw [List.length_map, List.length_take, ← HN.out] at this
      omega
    by_cases hlt : k < len
    · obtain ⟨b, off, t, rfl, hfk, hat⟩ := (HF.out.below HBr.out).at hlt
      have HFK := M.hl hfk
      obtain ⟨x, ss, y, z⟩ := t
      obtain ⟨c0, ⟨a', n', c', c1, hs, -⟩, c2, c3⟩ := hat
      simp only at c0 c1 c2 c3 hs
      have hn1 : n' ≤ 1048576 := by
        have h1 := M.tln_take hfk
        have h2 : M.tln ts = M.tln (ts.take (k + 1)) + M.tln (ts.drop (k + 1)) := by rw [← M.tln_app, List.take_append_drop]
        have h3 := hs.1
        simp only at h1
        omega
      have HW : Hid (w.heap.size < wr.heap.size) := HRr.out.lt
      have CT := M.hl (toTape_any wr a' n' c' ss x y z hs hn1)
      clear hs hfk
      go_wp2_with fail
      refine CT.out.mono ?_
      rintro e w2 ⟨q, rfl, hO, hq, hb2⟩
      have hblk := hb2.block w.heap.size HRr.out.lt
      have hR2 := HRr.out.of_block hblk
      have HR2 := M.hl hR2
      have HP2 := M.hl (HPr.out.of_block hblk)
      have HO2 := M.hl (HOr.out.below hb2)
      have HO := M.hl hO
      have HNE : Hid (∀ p ∈ ps, ∀ g, p.2.ownBlock = some g → (Value.slice (some ⟨q, 0, none⟩) n' n').ownBlock ≠ some g) := fun p hp g hg e => by
        have h1 := (HOr.out.1 p hp).2 g hg
        have h2 := Option.some.inj e
        simp at h2
        omega
      have HB2 : Hid (Below w.heap.size w w2) := HBr.out.trans (hb2.mono HBr.out.size)
      obtain ⟨v0, g0⟩ := hR2.cell (i := k * 4) (by omega)
      obtain ⟨v1, g1⟩ := hR2.cell (i := k * 4 + 1) (by omega)
      obtain ⟨v2, g2⟩ := hR2.cell (i := k * 4 + 2) (by omega)
      obtain ⟨v3, g3⟩ := hR2.cell (i := k * 4 + 3) (by omega)
      have e0 := hR2.free (k * 4)
      have e1 := hR2.free (k * 4 + 1)
      have e2 := hR2.free (k * 4 + 2)
      have e3 := hR2.free (k * 4 + 3)
      clear hb2 hblk hR2 c0 c1 c2 c3 hO
      go_wp2
      go_roundw
      case rel =>
        refine ⟨k + 1, ps ++ [(⟨x, ss, y, z⟩, .slice (some ⟨q, 0, none⟩) n' n')], by go_num, by omega, (((HR2.out.setCell _ _).setCell _ _).setCell _ _).setCell _ _, ?_, M.hl (HP2.out.push HR2.out HPL.out (by omega)), ?_, (((HB2.out.setCell (Nat.le_refl _) _).setCell (Nat.le_refl _) _).setCell (Nat.le_refl _) _).setCell (Nat.le_refl _) _⟩
        · show _ = _
          rw [List.map_append, HM.out, M.take_snocG HFK.out]
          rfl
        · refine M.ownAll.snoc ((((HO2.out.set (by omega) _ _).set (by omega) _ _).set (by omega) _ _).set (by omega) _ _) ?_ HNE.out
          have := HW.out
          exact ((((HO.out.lower (by omega)).setLow (by omega) _ _).setLow (by omega) _ _).setLow (by omega) _ _).setLow (by omega) _ _
      case measure => simp [intOf]; omega
    · have hlk : k = len := by omega
      subst hlk
      have HM2 : Hid (ps.map Prod.fst = ts) := by have := HM.out; rwa [List.take_of_length_le (by have := HN.out; omega)] at this
      go_wp2
      go_ret
      refine ⟨w.heap.size, ps, rfl, HM2.out, ⟨?_, fun g hg => ?_, fun p hp => ⟨(HOr.out.1 p hp).1.lower (by omega), (HOr.out.1 p hp).2⟩, HOr.out.2⟩, HBr.out⟩
      · have := M.row_of (cap := k) (lo := w.heap.size) HPr.out HRr.out (Nat.le_refl _) (by rw [HPL.out]; exact Nat.le_refl _) (by unfold maxLen; omega)
        rwa [HPL.out] at this ⊢
      · have := Option.some.inj hg
        rw [← this]
        exact HRr.out.lt
end Go.Proofs.Ytmafkcnnhkkleaa
