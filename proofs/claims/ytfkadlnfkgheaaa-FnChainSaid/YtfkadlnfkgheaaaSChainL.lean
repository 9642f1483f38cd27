/-
  What l05Chain of the specification does.
-/
import Derived.Test.YtfkadlnfkgheaaaNumOwn
import Derived.Test.YtfkadlnfkgheaaaSMarksR
namespace Go.Proofs.Ytfkadlnfkgheaaa
open Go.RowKit

theorem M.row_one (w : World) (z : Int) (base : Nat) (hb : base ≤ w.heap.size) : (w.alloc (.cells #[.int .i64 z] 2)).ownsRow base 2 1 (.slice (some ⟨w.heap.size, 0, none⟩) 1 1) 1 [.int .i64 z] :=
  ⟨rfl, .inr ⟨_, 1, #[.int .i64 z], rfl, hb, heap_alloc_new _ _, Nat.le_refl _, by decide, rfl, rfl⟩⟩
theorem M.NumsAt.src {w : World} {g cap : Nat} {zs : List Int} (h : M.NumsAt w g cap zs) : ∀ j u, (zs.map M.nv)[j]? = some u → w.cell? ((⟨g, 0, none⟩ : Addr).add j) = some u := by
  intro j u hu
  obtain ⟨hj, e⟩ := List.getElem?_eq_some_iff.1 hu
  rw [List.length_map] at hj
  rw [Addr.add_lit, Nat.zero_add, h.cell j hj, ← e]
  simp [M.nv]
theorem M.oneCellNs (zs : List Int) : ∀ v ∈ zs.map M.nv, v.oneCell' = true := by
  intro v hv
  obtain ⟨z, _, rfl⟩ := List.mem_map.1 hv
  rfl

set_option maxRecDepth 100000 in
set_option maxHeartbeats 3200000 in
theorem sChain_any (w : World) (a : Option Addr) (len cap : Nat) (ms : List M.MkD) (id : Int) (h : M.Mks w a len cap ms) (hr : M.MarksR ms) :
    Calls Try.prog 34 #[.slice a len cap, .int .i64 id] w fun e w' => ∃ v, e = .returned v ∧ M.OwnN w' w.heap.size v (M.chain ms id) ∧ Below w.heap.size w w' := by
  obtain ⟨i0, hi, hz0, hz1, hz2⟩ := info_parts Try.infoN
  have HM := M.hidm h
  have HR := M.hidm hr
  have HFL : Hid (len = ms.length) := h.1
  have hl60 : len ≤ 60 := by rw [h.1]; exact hr.1
  have HF : Hid (∀ (W : World) (z : Int), Below w.heap.size w W → Calls Try.prog 37 #[.slice a len cap, .int .i64 z] W fun e w' => e = .returned (.int .i64 (M.idx ms z)) ∧ W = w') := fun W z hW => sMark_any W a len cap ms z (HM.out.below hW)
  clear h hr
  go_enter Try.func34, Try.ntmps34
  go_wp2_with fail
  have hA : Below w.heap.size w (w.alloc (.cells #[] 2)) := (Below.refl _ _).alloc (Nat.le_refl _) _
  refine (HF.out _ id hA).mono ?_
  rintro e w1 ⟨rfl, rfl⟩
  have BA := M.hidm hA
  have HN0 : Hid (M.NumsAt (w.alloc (.cells #[] 2)) w.heap.size 0 []) := ⟨#[], heap_alloc_new _ _, Nat.le_refl _, rfl, rfl⟩
  have HI0 : Hid (M.idx ms id = -1 ∧ M.found ms id = none ∨ ∃ (k : Nat) (m : M.MkD), M.idx ms id = k ∧ k < 61 ∧ ms[k]? = some m ∧ M.found ms id = some m) := by
    rcases M.idx_cases ms id with h | ⟨k, hk, h1, h2⟩
    · exact .inl h
    · exact .inr ⟨k, ms[k], h1, by have := HFL.out; omega, List.getElem?_eq_getElem hk, h2⟩
  clear hA
  go_wp2
  go_loopw [5, 6] (fun v i wr => ∃ (acc : List Int) (cur : Int) (g cp F : Nat), v = .slice (some ⟨g, 0, none⟩) acc.length cp ∧ i = .int .i64 (M.idx ms cur) ∧ acc.length + F ≤ 61 ∧ w.heap.size ≤ g ∧ cp ≤ maxLen ∧ Hid (M.idx ms cur = -1 ∧ M.found ms cur = none ∨ ∃ (k : Nat) (m : M.MkD), M.idx ms cur = k ∧ k < F ∧ ms[k]? = some m ∧ M.found ms cur = some m) ∧ Hid (M.up ms 61 id = acc ++ M.up ms F cur) ∧ Hid (M.NumsAt wr g cp acc.reverse) ∧ Hid (Below w.heap.size w wr)) (fun _ i _ => (intOf i + 1).toNat)
  case atStart => exact ⟨[], id, w.heap.size, 0, 61, rfl, rfl, by simp, Nat.le_refl _, Nat.zero_le _, HI0, (show _ = _ by simp), HN0, BA⟩
  case round =>
    obtain ⟨acc, cur, g, cp, F, rfl, rfl, hlen, hg, hcp, HC, HU, HN, HBr⟩ := hrel
    rcases HC.out with ⟨hx, hf⟩ | ⟨k, m, hx, hkF, hk, hf⟩
    · have HE : Hid (M.chain ms id = acc.reverse) := by
        show _ = _
        unfold M.chain
        rw [HU.out, M.up_none hf, List.append_nil]
      have HO : Hid (M.OwnN wr w.heap.size (.slice (some ⟨g, 0, none⟩) acc.length cp) acc.reverse) := by have := HN.out.own hcp hg; rwa [List.length_reverse] at this
      rw [hx]
      clear hx hf HC HU
      go_wp2
      go_ret
      exact ⟨_, rfl, by rw [HE.out]; exact HO.out, HBr.out⟩
    · obtain ⟨f', rfl⟩ : ∃ f', F = f' + 1 := ⟨F - 1, by omega⟩
      have HU2 : Hid (M.up ms 61 id = (acc ++ [m.id]) ++ M.up ms f' m.base) := by
        show _ = _
        rw [HU.out, M.up_some hf, List.append_assoc]; rfl
      have HC2 : Hid (M.idx ms m.base = -1 ∧ M.found ms m.base = none ∨ ∃ (k : Nat) (m1 : M.MkD), M.idx ms m.base = k ∧ k < f' ∧ ms[k]? = some m1 ∧ M.found ms m.base = some m1) := by
        rcases M.idx_cases ms m.base with h | ⟨t, ht, h1, h2⟩
        · exact .inl h
        · refine .inr ⟨t, ms[t], h1, ?_, List.getElem?_eq_getElem ht, h2⟩
          rcases M.base_ahead HR.out hk with hn | ⟨t', b, h3, h4, h5⟩
          · rw [hn] at h2; cases h2
          · rw [h5] at h2
            have e := Option.some.inj h2
            have hasc := HR.out.asc
            obtain ⟨ht', e'⟩ := List.getElem?_eq_some_iff.1 h4
            have : t = t' := by
              rcases Nat.lt_trichotomy t t' with h | h | h
              · have := hasc.at h ht'; rw [e', e] at this; omega
              · exact h
              · have := hasc.at h ht; rw [e', e] at this; omega
            omega
      have HMS : Hid (M.idx ms m.base < k) := by
        show M.idx ms m.base < (k : Int)
        rcases HC2.out with ⟨h, -⟩ | ⟨t, b, h1, -, h2, h3⟩
        · rw [h]; omega
        · rcases M.base_ahead HR.out hk with hn | ⟨t', b', h4, h5, h6⟩
          · rw [hn] at h3; cases h3
          · rw [h6] at h3
            have e := Option.some.inj h3
            have hasc := HR.out.asc
            obtain ⟨ht', e'⟩ := List.getElem?_eq_some_iff.1 h5
            obtain ⟨ht, e2⟩ := List.getElem?_eq_some_iff.1 h2
            have : t = t' := by
              rcases Nat.lt_trichotomy t t' with h | h | h
              · have := hasc.at h ht'; rw [e', e2, e] at this; omega
              · exact h
              · have := hasc.at h ht; rw [e', e2, e] at this; omega
            rw [h1]; omega
      have hkm := (List.getElem?_eq_some_iff.1 hk).1
      have hkl : k < len := by have := HFL.out; omega
      have hkI : (k : Int) < (len : Int) := by omega
      rw [hx]
      obtain ⟨-, -, -, hfa⟩ := HM.out.below HBr.out
      obtain ⟨b, off, ha, hat⟩ := hfa (by omega)
      subst ha
      have HAT := M.hidm hat
      have c0 := (hat k hkm).1
      have c2 := (hat k hkm).2.2
      rw [show ms[k] = m from (List.getElem?_eq_some_iff.1 hk).2] at c0 c2
      have hbl := World.block_lt_of_cell? wr _ c0
      have hsz := HBr.out.size
      have HSRC : Hid (M.NumsAt (wr.alloc (.cells #[.int .i64 m.id] 2)) g cp acc.reverse) := HN.out.of_block (((Below.refl wr.heap.size wr).alloc (Nat.le_refl _) _).block g HN.out.lt)
      have hrl : acc.reverse.length = acc.length := by simp
      clear hat hfa hf hk HC HU hkm
      go_wp2_with (at_builtin; refine wpList_append_own _ rfl (.tmp 25) (.tmp 26) 26 rfl w.heap.size 2 i0 (.int .i64 0) 1 8 Try.underlying26 hi hz0 hz1 hz2 rfl (by decide) _ _ _ rfl (M.row_one wr m.id w.heap.size hsz) ⟨g, 0, none⟩ acc.length cp (acc.reverse.map M.nv) rfl (by simp) HSRC.out.src ?c2 ?c3 ?c4 ?c5 ?_)
      case c2 => exact fun _ _ => rfl
      case c3 => unfold maxLen; omega
      case c4 => omega
      case c5 => omega
      intro v' w2 hown' hgrow hv'
      have hO2 : M.OwnN w2 w.heap.size v' (acc ++ [m.id]).reverse := by
        unfold M.OwnN
        have e1 : (acc ++ [m.id]).reverse.length = 1 + acc.length := by simp; omega
        have e2 : (acc ++ [m.id]).reverse.map M.nv = Value.int .i64 m.id :: (acc.map M.nv).reverse := by simp [M.nv]
        rw [e1, e2]
        exact hown'
      obtain ⟨g', cp', hvv, hg', hcp', hN2⟩ : ∃ g' cp', v' = .slice (some ⟨g', 0, none⟩) (acc ++ [m.id]).reverse.length cp' ∧ w.heap.size ≤ g' ∧ cp' ≤ maxLen ∧ M.NumsAt w2 g' cp' (acc ++ [m.id]).reverse := by
        rcases hO2.at with ⟨h1, -⟩ | h
        · exact absurd h1 hv'
        · exact h
      rw [List.length_reverse] at hvv
      subst hvv
      have hgall : wr.grownBy w2 (some wr.heap.size) := (World.grownBy_alloc wr _ (some wr.heap.size)).trans hgrow
      have HB2 : Hid (Below w.heap.size w w2) := HBr.out.grown hgall HBr.out.size (fun j hj => by cases hj; exact hsz)
      have HN2 := M.hidm hN2
      have e2 : w2.cell? ⟨b, off + k * 3 + 2, none⟩ = some (.int .i64 m.base) := hgall.cell c2 (fun e => by have := Option.some.inj e; simp only at this; omega)
      have HF2 := M.hidm (HF.out w2 m.base HB2.out)
      clear hown' hgrow hv' hO2 hgall hN2 c0 c2 HN HSRC HF
      go_wp2_with fail
      refine HF2.out.mono ?_
      rintro e w3 ⟨rfl, rfl⟩
      go_wp2
      go_roundw
      case rel => exact ⟨acc ++ [m.id], m.base, g', cp', f', by simp, rfl, by simp; omega, hg', hcp', HC2, HU2, HN2, HB2⟩
      case measure => have := HMS.out; simp [intOf]; omega
end Go.Proofs.Ytfkadlnfkgheaaa
