/-
  What Kept of the program does.
-/
import Derived.Test.YtfkadlnfkgheaaaITog
import Derived.Test.YtfkadlnfkgheaaaIChainBy
namespace Go.Proofs.Ytfkadlnfkgheaaa
open Go.RowKit

theorem Try.infoNS : (Try.prog.info? 26).map (fun i => (i.zero, i.size, i.bytes)) = some (some (.slice none 0 0), 1, 24) := by kernel_rfl
theorem M.one_u (w : World) (z : Value) (T : TypeId) : ∀ j u, ([z])[j]? = some u → (w.alloc (.cells #[z] T)).cell? ((⟨w.heap.size, 0, none⟩ : Addr).add j) = some u := by
  intro j u hu
  rw [Addr.add_lit, Nat.zero_add, World.cell?_alloc_mark]
  simpa using hu

set_option maxRecDepth 100000 in
set_option maxHeartbeats 3200000 in
theorem iKept_any (w : World) (a : Option Addr) (len cap : Nat) (ms : List M.MkD) (b : Option Addr) (m cap2 : Nat) (ids : List Int) (h : M.Mks w a len cap ms) (hi : M.NV w b m ids) (hm : m ≤ 1048576) :
    Calls Try.prog 16 #[.slice a len cap, .slice b m cap2] w fun e w' => ∃ v zs, e = .returned v ∧ M.OwnN w' w.heap.size v zs ∧ M.KeptOut ms ids zs ∧ Below w.heap.size w w' := by
  obtain ⟨i0, hi0, hz0, hz1, hz2⟩ := info_parts Try.infoNS
  have HM := M.hidm h
  have HI := M.hidm hi
  have HIL : Hid (m = ids.length) := hi.1
  clear h hi
  by_cases h5 : 400 < m
  · have HN : Hid (M.KeptOut ms ids []) := .inr ⟨fun h => by have := h.2; have := HIL.out; omega, rfl⟩
    have d2 : decide (400 < (m : Int)) = true := decide_eq_true (by omega)
    go_enter Try.func16, Try.ntmps16
    go_wp2
    go_ret
    exact ⟨_, [], rfl, M.OwnN.nil _ _, HN.out, Below.refl _ _⟩
  have d2 : decide (400 < (m : Int)) = false := decide_eq_false (by omega)
  have hm4 : m ≤ 400 := by omega
  clear h5
  go_enter Try.func16, Try.ntmps16
  go_wp2_with fail
  refine (iMarksR_any w a len cap ms HM.out).mono ?_
  rintro e w1 ⟨v, rfl, hv, hb1⟩
  have HV := M.hidm hv
  have B1 := M.hidm hb1
  clear hv hb1
  cases v
  · have HN : Hid (M.KeptOut ms ids []) := .inr ⟨fun h => (by have := HV.out.2 h.1; cases this), rfl⟩
    go_wp2
    go_ret
    exact ⟨_, [], rfl, M.OwnN.nil _ _, HN.out, B1.out⟩
  have HY := M.hidm (HV.out.1 rfl)
  clear HV
  go_wp2
  go_loopw [6, 21] (fun v i wr => ∃ (k : Nat) (us : List Value), i = .int .i64 k ∧ us.length = k ∧ k ≤ m ∧ Hid (M.OwnR wr w.heap.size v us) ∧ Hid (M.Each wr w.heap.size us ((ids.take k).map (M.chain ms))) ∧ Hid (Below w.heap.size w wr)) (fun _ i _ => m - (intOf i).toNat)
  case atStart => exact ⟨0, [], rfl, rfl, Nat.zero_le _, M.OwnR.nil _ _, M.Each.nil _ _, B1⟩
  case round =>
    obtain ⟨k, us, rfl, hus, hk, HO, HE, HBr⟩ := hrel
    obtain ⟨av, cv, hvv⟩ := HO.out.sl
    rw [hus] at hvv
    subst hvv
    by_cases hlt : k < m
    · have hkm : k < ids.length := by have := HIL.out; omega
      obtain ⟨-, hfa⟩ := HI.out
      obtain ⟨bb, off, hbo, hat⟩ := hfa (by omega)
      subst hbo
      have q0 := hat k hkm
      have hfk := List.getElem?_eq_getElem hkm
      generalize ids[k]'hkm = z at q0 hfk
      have c0 := (HBr.out.cell (p := ⟨bb, off + k, none⟩) (World.block_lt_of_cell? w _ q0)).trans q0
      have HTK : Hid ((ids.take (k + 1)).map (M.chain ms) = (ids.take k).map (M.chain ms) ++ [M.chain ms z]) := by
        show _ = _
        rw [M.take_snocI hfk, List.map_append]; rfl
      have HCH := M.hidm (iChainBy_any wr a len cap ms z (HM.out.below HBr.out) HY.out)
      clear hat hfa hfk hkm q0
      generalize M.chain ms z = cz at HCH HTK
      go_wp2_with fail
      refine HCH.out.mono ?_
      rintro e w2 ⟨v2, rfl, ho2, hb2⟩
      obtain ⟨vx, vy, hv2, -⟩ := ho2.nv
      generalize cz.length = vl at hv2
      subst hv2
      have HO2 := M.hidm (HO.out.below hb2)
      have HE2 : Hid (M.Each w2 w.heap.size (us ++ [Value.slice vx vl vy]) ((ids.take (k + 1)).map (M.chain ms))) := by
        show M.Each _ _ _ _
        rw [HTK.out]
        exact (HE.out.below hb2).snoc (ho2.down HBr.out.size)
      have B2 := M.hidm (M.sm HBr.out hb2)
      have hsz := B2.out.size
      have hown := HO2.out
      unfold M.OwnR at hown
      clear HCH c0 ho2 hb2 HO HE
      go_wp2_with (at_builtin; refine wpList_append_own _ rfl (.tmp 25) (.tmp 29) 60 rfl w.heap.size 26 i0 (.slice none 0 0) 1 24 Try.underlying60 hi0 hz0 hz1 hz2 rfl (by decide) _ _ _ rfl (World.ownsRow.alloc hown _) ⟨w2.heap.size, 0, none⟩ 1 1 [.slice vx vl vy] rfl rfl (M.one_u _ _ _) ?c2 ?c3 ?c4 ?c5 ?_)
      case c2 => exact fun u hu => by rw [List.mem_singleton.1 hu]; rfl
      case c3 => unfold maxLen; omega
      case c4 => omega
      case c5 => simp; omega
      intro v' w3 hown' hgrow _
      have hgall : w2.grownBy w3 _ := ((World.grownBy_alloc w2 _ none).but _).trans hgrow
      have HO3 : Hid (M.OwnR w3 w.heap.size v' (us ++ [Value.slice vx vl vy])) := by
        show M.OwnR _ _ _ _
        unfold M.OwnR
        rw [List.length_append, hus]
        exact hown'
      have HE3 : Hid (M.Each w3 w.heap.size (us ++ [Value.slice vx vl vy]) ((ids.take (k + 1)).map (M.chain ms))) := HE2.out.grown HO2.out hgall
      have HB3 : Hid (Below w.heap.size w w3) := B2.out.grown hgall hsz (fun j hj => (World.ownsRow.lt hown j hj).1)
      have hul : (us ++ [Value.slice vx vl vy]).length = k + 1 := by simp [hus]
      clear hown' hgrow hgall hown HO2 HE2
      go_wp2
      go_roundw
      case rel => exact ⟨k + 1, us ++ [Value.slice vx vl vy], by go_num, hul, by omega, HO3, HE3, HB3⟩
      case measure => simp [intOf]; omega
    · obtain rfl : k = m := by omega
      have hall : ids.take k = ids := List.take_of_length_le (by have := HIL.out; omega)
      rw [hall] at HE
      clear hall
      have HRW := M.hidm (HO.out.rows HE.out)
      have HKK : Hid (M.KeptOut ms ids (Lib.compact (M.sorted (ids.map (M.chain ms)).flatten))) := .inl ⟨HY.out, by have := HIL.out; omega, M.keep_eq HY.out ids⟩
      have HZ : Hid (∀ z ∈ ids.map (M.chain ms), z.length ≤ 61) := fun z hz => by
        obtain ⟨i, -, rfl⟩ := List.mem_map.1 hz
        exact M.chain_le ms i
      clear HO HE
      go_wp2_with fail
      refine (iTog_any wr av k cv _ HRW.out hm4 HZ.out).mono ?_
      rintro e w2 ⟨v2, rfl, ho2, hb2⟩
      have HO2 := M.hidm (ho2.down HBr.out.size)
      have B2 := M.hidm (M.sm HBr.out hb2)
      clear ho2 hb2
      go_wp2
      go_ret
      exact ⟨_, _, rfl, HO2.out, HKK.out, B2.out⟩
end Go.Proofs.Ytfkadlnfkgheaaa
