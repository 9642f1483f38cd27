/-
  What l05Has, l05Kept and Kept of the specification do.
-/
import Derived.Test.YtfkadlnfkgheaaaSChainL
import Derived.Test.YtfkadlnfkgheaaaNumSW
import Derived.Laws.AppendOwnNone
namespace Go.Proofs.Ytfkadlnfkgheaaa
open Go.RowKit

def M.has (zs : List Int) (n : Int) : Bool := decide (n ∈ zs)
set_option maxRecDepth 100000 in
set_option maxHeartbeats 800000 in
theorem sHas_nv (w : World) (a : Option Addr) (len cap : Nat) (zs : List Int) (n : Int) (h : M.NV w a len zs) (hl : len ≤ 1000000) :
    Calls Try.prog 57 #[.slice a len cap, .int .i64 n] w fun e w' => e = .returned (.bool (M.has zs n)) ∧ w = w' := by
  have HF := M.hidm h
  have HL : Hid (len = zs.length) := h.1
  clear h
  go_enter Try.func57, Try.ntmps57
  go_wp2
  go_loop [5] (fun i => ∃ k : Nat, i = .int .i64 k ∧ k ≤ len ∧ Hid (∀ t (h : t < zs.length), t < k → zs[t] ≠ n)) (fun i => len - (intOf i).toNat)
  case atStart => exact ⟨0, rfl, Nat.zero_le _, fun t _ h => absurd h (Nat.not_lt_zero _)⟩
  case round =>
    obtain ⟨k, rfl, hk, HG⟩ := hrel
    by_cases hlt : k < len
    · have hkm : k < zs.length := by have := HL.out; omega
      obtain ⟨-, hfa⟩ := HF.out
      obtain ⟨b, off, rfl, hat⟩ := hfa (by omega)
      have c0 := hat k hkm
      have hfk := List.getElem?_eq_getElem hkm
      generalize zs[k]'hkm = z at c0 hfk
      have HFK := M.hidm hfk
      clear hat hfa hfk hkm
      by_cases e : z = n
      · have d0 : (z == n) = true := by simpa using e
        have HY : Hid (M.has zs n = true) := decide_eq_true (by rw [← e]; exact List.mem_of_getElem? HFK.out)
        clear e
        go_wp2
        go_ret
        exact ⟨by rw [HY.out]; rfl, rfl⟩
      · have d0 : (z == n) = false := by simpa using e
        have HG2 : Hid (∀ t (h : t < zs.length), t < k + 1 → zs[t] ≠ n) := fun t ht htk => by
          by_cases e2 : t = k
          · subst e2
            obtain ⟨h1, h2⟩ := List.getElem?_eq_some_iff.1 HFK.out
            rw [h2]; exact e
          · exact HG.out t ht (by omega)
        clear e
        go_wp2
        go_round
        case rel => exact ⟨k + 1, by go_num, by omega, HG2⟩
        case measure => simp [intOf]; omega
    · have HN : Hid (M.has zs n = false) := decide_eq_false fun hm => by
        obtain ⟨i, hi, e⟩ := List.mem_iff_getElem.1 hm
        exact HG.out i hi (by have := HL.out; omega) e
      go_wp2
      go_ret
      exact ⟨by rw [HN.out]; rfl, rfl⟩
theorem sHas_own (w : World) (base : Nat) (v : Value) (zs : List Int) (n : Int) (h : M.OwnN w base v zs) (hl : zs.length ≤ 1000000) :
    Calls Try.prog 57 #[v, .int .i64 n] w fun e w' => e = .returned (.bool (M.has zs n)) ∧ w = w' := by
  obtain ⟨a, cap, rfl, hv⟩ := h.nv
  exact sHas_nv w a _ cap zs n hv hl

theorem M.one_zz (w : World) (z : Int) (T : TypeId) : ∀ j u, ([Value.int .i64 z])[j]? = some u → (w.alloc (.cells #[.int .i64 z] T)).cell? ((⟨w.heap.size, 0, none⟩ : Addr).add j) = some u := by
  intro j u hu
  rw [Addr.add_lit, Nat.zero_add, World.cell?_alloc_mark]
  simpa using hu
/-- All Ids of these chains, one chain behind the other. -/
def M.chains (ms : List M.MkD) (ids : List Int) : List Int := ids.flatMap (M.chain ms)
theorem M.chains_snoc (ms : List M.MkD) (ids : List Int) (i : Int) : M.chains ms (ids ++ [i]) = M.chains ms ids ++ M.chain ms i := by simp [M.chains]
theorem M.chain_le (ms : List M.MkD) (id : Int) : (M.chain ms id).length ≤ 61 := by
  unfold M.chain
  rw [List.length_reverse]
  exact M.up_le 61 id
theorem M.chains_len (ms : List M.MkD) : ∀ ids : List Int, (M.chains ms ids).length ≤ 61 * ids.length
  | [] => by simp [M.chains]
  | i :: ids => by
    have h1 := M.chains_len ms ids
    have h2 := M.chain_le ms i
    simp only [M.chains, List.flatMap_cons, List.length_append, List.length_cons] at h1 ⊢
    omega
theorem M.take_snocI {zs : List Int} {k : Nat} {z : Int} (h : zs[k]? = some z) : zs.take (k + 1) = zs.take k ++ [z] := by
  rw [List.take_add_one, h]; rfl
/-- The Ids of the first k marks that are among these. -/
def M.keep (ms : List M.MkD) (all : List Int) (k : Nat) : List Int := ((ms.take k).map fun m => m.id).filter fun z => decide (z ∈ all)
theorem M.keep_yes {ms : List M.MkD} {all : List Int} {k : Nat} {m : M.MkD} (h : ms[k]? = some m) (hm : m.id ∈ all) : M.keep ms all (k + 1) = M.keep ms all k ++ [m.id] := by
  unfold M.keep
  rw [M.take_snocM h, List.map_append, List.filter_append]
  simp [hm]
theorem M.keep_no {ms : List M.MkD} {all : List Int} {k : Nat} {m : M.MkD} (h : ms[k]? = some m) (hm : ¬ m.id ∈ all) : M.keep ms all (k + 1) = M.keep ms all k := by
  unfold M.keep
  rw [M.take_snocM h, List.map_append, List.filter_append]
  simp [hm]
theorem M.keep_len (ms : List M.MkD) (all : List Int) (k : Nat) : (M.keep ms all k).length ≤ k := by
  unfold M.keep
  refine Nat.le_trans (List.length_filter_le _ _) ?_
  rw [List.length_map, List.length_take]
  exact Nat.min_le_left _ _

set_option maxRecDepth 100000 in
set_option maxHeartbeats 3200000 in
theorem sKept_in (w : World) (a : Option Addr) (len cap : Nat) (ms : List M.MkD) (b : Option Addr) (m cap2 : Nat) (ids : List Int) (h : M.Mks w a len cap ms) (hr : M.MarksR ms) (hi : M.NV w b m ids) (hm : m ≤ 400) :
    Calls Try.prog 40 #[.slice a len cap, .slice b m cap2] w fun e w' => ∃ v, e = .returned v ∧ M.OwnN w' w.heap.size v (M.keep ms (M.chains ms ids) ms.length) ∧ Below w.heap.size w w' := by
  obtain ⟨i0, hi0, hz0, hz1, hz2⟩ := info_parts Try.infoN
  have HM := M.hidm h
  have HR := M.hidm hr
  have HFL : Hid (len = ms.length) := h.1
  have HI := M.hidm hi
  have HIL : Hid (m = ids.length) := hi.1
  have hl60 : len ≤ 60 := by rw [h.1]; exact hr.1
  clear h hr hi
  have HA : Hid (∀ W, Below w.heap.size w W → M.OwnN (W.alloc (.cells #[] 2)) w.heap.size (.slice (some ⟨W.heap.size, 0, none⟩) 0 0) [] ∧ Below w.heap.size w (W.alloc (.cells #[] 2))) := fun W hW => ⟨M.NumsAt.own (zs := []) ⟨#[], heap_alloc_new _ _, Nat.le_refl _, rfl, rfl⟩ (Nat.zero_le _) hW.size, hW.alloc hW.size _⟩
  have A0 := M.hidm (HA.out w (Below.refl _ _))
  go_enter Try.func40, Try.ntmps40
  go_wp2
  go_loopw [5, 6] (fun v i wr => ∃ k : Nat, i = .int .i64 k ∧ k ≤ m ∧ Hid (M.OwnN wr w.heap.size v (M.chains ms (ids.take k))) ∧ Hid (Below w.heap.size w wr)) (fun _ i _ => m - (intOf i).toNat)
  case atStart => exact ⟨0, rfl, Nat.zero_le _, A0.out.1, A0.out.2⟩
  case round =>
    obtain ⟨k, rfl, hk, HO, HBr⟩ := hrel
    obtain ⟨av, cv, rfl, -⟩ := HO.out.nv
    by_cases hlt : k < m
    · have hkm : k < ids.length := by have := HIL.out; omega
      obtain ⟨-, hfa⟩ := HI.out
      obtain ⟨bb, off, hbo, hat⟩ := hfa (by omega)
      subst hbo
      have q0 := hat k hkm
      have hfk := List.getElem?_eq_getElem hkm
      generalize ids[k]'hkm = z at q0 hfk
      have c0 := (HBr.out.cell (p := ⟨bb, off + k, none⟩) (World.block_lt_of_cell? w _ q0)).trans q0
      have HTK := M.hidm (M.take_snocI hfk)
      have hlc := M.chains_len ms (ids.take k)
      have hlz := M.chain_le ms z
      have hlk : (ids.take k).length ≤ k := by rw [List.length_take]; exact Nat.min_le_left _ _
      have hbd : (M.chains ms (ids.take k)).length + (M.chain ms z).length ≤ 24461 := by omega
      have HEQ : Hid (M.chains ms (ids.take (k + 1)) = M.chains ms (ids.take k) ++ M.chain ms z) := by show _ = _; rw [HTK.out, M.chains_snoc]
      have HCH := M.hidm (sChain_any wr a len cap ms z (HM.out.below HBr.out) HR.out)
      clear hat hfa hfk hkm q0 hlc hlz hlk HTK
      generalize M.chain ms z = cz at HCH hbd HEQ
      generalize M.chains ms (ids.take k) = al at HO hbd HEQ ⊢
      go_wp2_with fail
      refine HCH.out.mono ?_
      rintro e w2 ⟨v2, rfl, ho2, hb2⟩
      have hO1 := HO.out.below hb2
      have B2 := M.hidm (M.sm HBr.out hb2)
      have hsz := B2.out.size
      clear HCH c0
      rcases ho2.at with ⟨rfl, hnil⟩ | ⟨g, cp, rfl, hg, hcp, hN⟩
      · have HO2 : Hid (M.OwnN w2 w.heap.size (.slice av al.length cv) (M.chains ms (ids.take (k + 1)))) := by
          show M.OwnN _ _ _ _
          rw [HEQ.out, hnil, List.append_nil]
          exact hO1
        unfold M.OwnN at hO1
        clear hnil hb2 ho2 HO
        go_wp2_with (at_builtin; refine wpList_append_own_none rfl (.tmp 16) (.tmp 22) 26 rfl w.heap.size 2 i0 1 Try.underlying26 hi0 _ _ _ rfl hO1 rfl ?_)
        go_wp2
        go_roundw
        case rel => exact ⟨k + 1, by go_num, by omega, HO2, B2⟩
        case measure => simp [intOf]; omega
      · have hsrc := hN.src
        unfold M.OwnN at hO1
        clear hb2 ho2 HO
        go_wp2_with (at_builtin; refine wpList_append_own _ rfl (.tmp 16) (.tmp 22) 26 rfl w.heap.size 2 i0 (.int .i64 0) 1 8 Try.underlying26 hi0 hz0 hz1 hz2 rfl (by decide) _ _ _ rfl hO1 ⟨g, 0, none⟩ cz.length cp (cz.map M.nv) rfl (by simp) hsrc ?c2 ?c3 ?c4 ?c5 ?_)
        case c2 => exact M.oneCellNs _
        case c3 => unfold maxLen; omega
        case c4 => omega
        case c5 => exact hsz
        intro v' w3 hown' hgrow _
        have HO2 : Hid (M.OwnN w3 w.heap.size v' (M.chains ms (ids.take (k + 1)))) := by
          show M.OwnN _ _ _ _
          rw [HEQ.out]
          unfold M.OwnN
          rw [List.length_append, List.map_append]
          exact hown'
        have HB3 : Hid (Below w.heap.size w w3) := B2.out.grown hgrow hsz (fun j hj => (World.ownsRow.lt hO1 j hj).1)
        clear hown' hgrow hO1 hsrc hN
        go_wp2
        go_roundw
        case rel => exact ⟨k + 1, by go_num, by omega, HO2, HB3⟩
        case measure => simp [intOf]; omega
    · obtain rfl : k = m := by omega
      have hall : ids.take k = ids := List.take_of_length_le (by have := HIL.out; omega)
      rw [hall] at HO ⊢
      clear hall
      have hlc := M.chains_len ms ids
      have hal : (M.chains ms ids).length ≤ 24400 := by have := HIL.out; omega
      have HKL : Hid (∀ j, (M.keep ms (M.chains ms ids) j).length ≤ j) := fun j => M.keep_len _ _ j
      have HKY : Hid (∀ (j : Nat) (x : M.MkD), ms[j]? = some x → M.has (M.chains ms ids) x.id = true → M.keep ms (M.chains ms ids) (j + 1) = M.keep ms (M.chains ms ids) j ++ [x.id]) := fun j x hx hh => M.keep_yes hx (of_decide_eq_true hh)
      have HKN : Hid (∀ (j : Nat) (x : M.MkD), ms[j]? = some x → M.has (M.chains ms ids) x.id = false → M.keep ms (M.chains ms ids) (j + 1) = M.keep ms (M.chains ms ids) j) := fun j x hx hh => M.keep_no hx (of_decide_eq_false hh)
      have HK0 : Hid (M.keep ms (M.chains ms ids) 0 = []) := by show _ = _; simp [M.keep]
      obtain ⟨al, hAL⟩ : ∃ al, al = M.chains ms ids := ⟨_, rfl⟩
      have HAL := M.hidm hAL
      rw [← hAL] at HO hal HKL HKY HKN HK0 ⊢
      clear hAL hlc
      have A1 := M.hidm (HA.out wr HBr.out)
      have HOW : Hid (M.OwnN (wr.alloc (.cells #[] 2)) w.heap.size (.slice av al.length cv) al) := HO.out.below ((Below.refl _ _).alloc (Nat.le_refl _) _)
      obtain ⟨B2, hB2⟩ : ∃ B2, B2 = wr.heap.size := ⟨_, rfl⟩
      have HAB : Hid (∀ b, (Value.slice av al.length cv).ownBlock = some b → b < B2) := fun b hb => by rw [hB2]; exact (World.ownsRow.lt HO.out b hb).2
      have hwB : w.heap.size ≤ B2 := by rw [hB2]; exact HBr.out.size
      have A2 : Hid (M.OwnN (wr.alloc (.cells #[] 2)) B2 (.slice (some ⟨wr.heap.size, 0, none⟩) 0 0) []) := by
        rw [hB2]
        exact M.NumsAt.own (zs := []) ⟨#[], heap_alloc_new _ _, Nat.le_refl _, rfl, rfl⟩ (Nat.zero_le _) (Nat.le_refl _)
      have hBs : B2 ≤ (wr.alloc (.cells #[] 2)).heap.size := by rw [hB2]; simp
      clear HO hB2
      go_wp2
      go_loopw [7, 8] (fun v i wq => ∃ j : Nat, i = .int .i64 j ∧ j ≤ len ∧ Hid (M.OwnN wq B2 v (M.keep ms al j)) ∧ Hid (M.OwnN wq w.heap.size (.slice av al.length cv) al) ∧ B2 ≤ wq.heap.size ∧ Hid (Below w.heap.size w wq)) (fun _ i _ => len - (intOf i).toNat)
      case atStart => exact ⟨0, rfl, Nat.zero_le _, (show M.OwnN _ _ _ _ by rw [HK0.out]; exact A2.out), HOW, hBs, A1.out.2⟩
      case round =>
        obtain ⟨j, rfl, hj, HOv, HOa, hBq, HBq⟩ := hrel
        obtain ⟨ao, co, rfl, -⟩ := HOv.out.nv
        by_cases hjl : j < len
        · have hjm : j < ms.length := by have := HFL.out; omega
          obtain ⟨-, -, -, hfa⟩ := HM.out.below HBq.out
          obtain ⟨bb, off, hbo, hat⟩ := hfa (by omega)
          subst hbo
          have c0 := (hat j hjm).1
          have hfk := List.getElem?_eq_getElem hjm
          generalize ms[j]'hjm = x at c0 hfk
          have HFK := M.hidm hfk
          have HH := M.hidm (sHas_own wr w.heap.size (.slice av al.length cv) al x.id HOa.out (by omega))
          have hkl := HKL.out j
          clear hat hfa hfk hjm
          cases hh : M.has al x.id
          · have HE := M.hidm (HKN.out j x HFK.out hh)
            rw [hh] at HH
            clear hh
            have HO2 : Hid (M.OwnN wr B2 (.slice ao (M.keep ms al j).length co) (M.keep ms al (j + 1))) := by show M.OwnN _ _ _ _; rw [HE.out]; exact HOv.out
            generalize (M.keep ms al j).length = nk at HO2 hkl ⊢
            clear HOv
            go_wp2_with fail
            refine HH.out.mono ?_
            rintro e w' ⟨rfl, rfl⟩
            go_wp2
            go_roundw
            case rel => exact ⟨j + 1, by go_num, by omega, HO2, HOa, hBq, HBq⟩
            case measure => simp [intOf]; omega
          · have HE := M.hidm (HKY.out j x HFK.out hh)
            rw [hh] at HH
            clear hh
            have hown := HOv.out
            unfold M.OwnN at hown
            generalize M.keep ms al j = kj at HE hown hkl ⊢
            clear HOv
            go_wp2_with fail
            refine HH.out.mono ?_
            rintro e w' ⟨rfl, rfl⟩
            go_wp2_with (at_builtin; refine wpList_append_own _ rfl (.tmp 38) (.tmp 44) 26 rfl B2 2 i0 (.int .i64 0) 1 8 Try.underlying26 hi0 hz0 hz1 hz2 rfl (by decide) _ _ _ rfl (World.ownsRow.alloc hown _) ⟨wr.heap.size, 0, none⟩ 1 1 [.int .i64 x.id] rfl rfl (M.one_zz _ _ _) ?c2 ?c3 ?c4 ?c5 ?_)
            case c2 => exact fun u hu => by rw [List.mem_singleton.1 hu]; rfl
            case c3 => unfold maxLen; omega
            case c4 => omega
            case c5 => simp; omega
            intro v' w3 hown' hgrow _
            have hgall : wr.grownBy w3 _ := ((World.grownBy_alloc wr _ none).but _).trans hgrow
            have HO2 : Hid (M.OwnN w3 B2 v' (M.keep ms al (j + 1))) := by show M.OwnN _ _ _ _; rw [HE.out]; exact M.OwnN.more hown'
            have HA2 : Hid (M.OwnN w3 w.heap.size (.slice av al.length cv) al) := HOa.out.grown hgall (fun b hb e => by have h1 := HAB.out b hb; have h2 := (World.ownsRow.lt hown b e.symm).1; omega)
            have HB3 : Hid (Below w.heap.size w w3) := HBq.out.grown hgall HBq.out.size (fun b hb => by have h2 := (World.ownsRow.lt hown b hb).1; omega)
            have hBq3 : B2 ≤ w3.heap.size := Nat.le_trans hBq hgall.size
            clear hown' hgrow hgall hown c0
            go_wp2
            go_roundw
            case rel => exact ⟨j + 1, by go_num, by omega, HO2, HA2, hBq3, HB3⟩
            case measure => simp [intOf]; omega
        · obtain rfl : j = len := by omega
          have HF : Hid (M.OwnN wr w.heap.size (.slice ao (M.keep ms al j).length co) (M.keep ms (M.chains ms ids) ms.length)) := by
            show M.OwnN _ _ _ _
            rw [← HAL.out, ← HFL.out]
            exact HOv.out.down hwB
          generalize (M.keep ms al j).length = nk at HF ⊢
          clear HOv
          go_wp2
          go_ret
          exact ⟨_, rfl, HF.out, HBq.out⟩

/-- What Kept tells. -/
def M.KeptOut (ms : List M.MkD) (ids zs : List Int) : Prop := (M.MarksR ms ∧ ids.length ≤ 400 ∧ zs = M.keep ms (M.chains ms ids) ms.length) ∨ (¬ (M.MarksR ms ∧ ids.length ≤ 400) ∧ zs = [])
theorem M.KeptOut.same {ms : List M.MkD} {ids zs zs' : List Int} (h : M.KeptOut ms ids zs) (h' : M.KeptOut ms ids zs') : zs = zs' := by
  rcases h with ⟨h1, h2, rfl⟩ | ⟨h1, rfl⟩ <;> rcases h' with ⟨k1, k2, rfl⟩ | ⟨k1, rfl⟩
  · rfl
  · exact absurd ⟨h1, h2⟩ k1
  · exact absurd ⟨k1, k2⟩ h1
  · rfl
set_option maxRecDepth 100000 in
set_option maxHeartbeats 800000 in
theorem sKept_any (w : World) (a : Option Addr) (len cap : Nat) (ms : List M.MkD) (b : Option Addr) (m cap2 : Nat) (ids : List Int) (h : M.Mks w a len cap ms) (hi : M.NV w b m ids) (hm : m ≤ 1048576) :
    Calls Try.prog 17 #[.slice a len cap, .slice b m cap2] w fun e w' => ∃ v zs, e = .returned v ∧ M.OwnN w' w.heap.size v zs ∧ M.KeptOut ms ids zs ∧ Below w.heap.size w w' := by
  have HM := M.hidm h
  have HI := M.hidm hi
  have HFL : Hid (len = ms.length) := h.1
  have HIL : Hid (m = ids.length) := hi.1
  have hlm : len ≤ 9223372036854775807 := by obtain ⟨_, h1, h2, _⟩ := h; unfold maxLen at h2; omega
  have HA : Hid (∀ W, Below w.heap.size w W → M.OwnN (W.alloc (.cells #[] 2)) w.heap.size (.slice (some ⟨W.heap.size, 0, none⟩) 0 0) [] ∧ Below w.heap.size w (W.alloc (.cells #[] 2))) := fun W hW => ⟨M.NumsAt.own (zs := []) ⟨#[], heap_alloc_new _ _, Nat.le_refl _, rfl, rfl⟩ (Nat.zero_le _) hW.size, hW.alloc hW.size _⟩
  clear h hi
  by_cases h4 : 400 < len
  · have HN : Hid (M.KeptOut ms ids []) := .inr ⟨fun h => by have := h.1.1; have := HFL.out; omega, rfl⟩
    have d1 : decide (400 < (len : Int)) = true := decide_eq_true (by omega)
    go_enter Try.func17, Try.ntmps17
    go_wp2
    go_ret
    exact ⟨_, [], rfl, (HA.out w (Below.refl _ _)).1, HN.out, (HA.out w (Below.refl _ _)).2⟩
  have d1 : decide (400 < (len : Int)) = false := decide_eq_false (by omega)
  by_cases h5 : 400 < m
  · have HN : Hid (M.KeptOut ms ids []) := .inr ⟨fun h => by have := h.2; have := HIL.out; omega, rfl⟩
    have d2 : decide (400 < (m : Int)) = true := decide_eq_true (by omega)
    go_enter Try.func17, Try.ntmps17
    go_wp2
    go_ret
    exact ⟨_, [], rfl, (HA.out w (Below.refl _ _)).1, HN.out, (HA.out w (Below.refl _ _)).2⟩
  have d2 : decide (400 < (m : Int)) = false := decide_eq_false (by omega)
  go_enter Try.func17, Try.ntmps17
  go_wp2_with fail
  refine (sMarksR_any w a len cap ms HM.out).mono ?_
  rintro e w1 ⟨v, rfl, hv, hb1⟩
  have HV := M.hidm hv
  have B1 := M.hidm hb1
  clear hv hb1
  cases v
  · have HN : Hid (M.KeptOut ms ids []) := .inr ⟨fun h => (by have := HV.out.2 h.1; cases this), rfl⟩
    go_wp2
    go_ret
    exact ⟨_, [], rfl, (HA.out w1 B1.out).1, HN.out, (HA.out w1 B1.out).2⟩
  · have HY := M.hidm (HV.out.1 rfl)
    have HI1 : Hid (M.NV w1 b m ids) := ⟨HI.out.1, fun hp => by
      obtain ⟨bb, off, e, hat⟩ := HI.out.2 hp
      exact ⟨bb, off, e, fun i hi => (B1.out.cell (p := ⟨bb, off + i, none⟩) (World.block_lt_of_cell? w _ (hat i hi))).trans (hat i hi)⟩⟩
    go_wp2_with fail
    refine (sKept_in w1 a len cap ms b m cap2 ids (HM.out.below B1.out) HY.out HI1.out (by omega)).mono ?_
    rintro e w2 ⟨v, rfl, ho, hb2⟩
    have HO := M.hidm (ho.down B1.out.size)
    have B2 := M.hidm (M.sm B1.out hb2)
    have HK : Hid (M.KeptOut ms ids (M.keep ms (M.chains ms ids) ms.length)) := .inl ⟨HY.out, by have := HIL.out; omega, rfl⟩
    clear ho hb2
    go_wp2
    go_ret
    exact ⟨_, _, rfl, HO.out, HK.out, B2.out⟩
end Go.Proofs.Ytfkadlnfkgheaaa
