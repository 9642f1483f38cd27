/-
  What together of the program does; chains of Ids, laid beside one another; the Ids that are kept, rising.
-/
import Derived.Test.YtfkadlnfkgheaaaIConcat
import Derived.Test.YtfkadlnfkgheaaaISortI
import Derived.Test.YtfkadlnfkgheaaaSKept
namespace Go.Proofs.Ytfkadlnfkgheaaa
open Go.RowKit

theorem M.flat_all {zss : List (List Int)} {len : Nat} (h : ∀ z ∈ zss, z.length ≤ 61) (hl : zss.length = len) : zss.flatten.length ≤ 61 * len := by
  have := M.flat_le h len
  rwa [List.take_of_length_le (by omega)] at this

set_option maxRecDepth 100000 in
set_option maxHeartbeats 800000 in
theorem iTog_any (w : World) (a : Option Addr) (len cap : Nat) (zss : List (List Int)) (h : M.RowsN w a len zss) (hl : len ≤ 400) (hz : ∀ z ∈ zss, z.length ≤ 61) :
    Calls Try.prog 39 #[.slice a len cap] w fun e w' => ∃ v, e = .returned v ∧ M.OwnN w' w.heap.size v (Lib.compact (M.sorted zss.flatten)) ∧ Below w.heap.size w w' := by
  have hf : zss.flatten.length ≤ 24400 := by have := M.flat_all hz h.1.symm; omega
  have HR := M.hidm h
  have HZ := M.hidm hz
  clear h hz
  have HC : Hid (Calls Try.prog 54 #[.slice a len cap] w fun e w' => ∃ v, e = .returned v ∧ M.OwnN w' w.heap.size v zss.flatten ∧ Below w.heap.size w w') := concat_any w a len cap zss HR.out hl HZ.out
  generalize zss.flatten = fl at hf HC ⊢
  have HS : Hid (∀ (w1 : World) (v : Value), M.OwnN w1 w.heap.size v fl → Calls Try.prog 55 #[v] w1 fun e w' => e = .returned (.tuple #[]) ∧ M.OwnN w' w.heap.size v (M.sorted fl) ∧ w1.grownBy w' v.ownBlock) := fun w1 v h => sort_own w1 w.heap.size v fl h (by omega)
  have hle : (M.sorted fl).length = fl.length := List.length_mergeSort _
  have hs2 : (M.sorted fl).length ≤ 1000000 := by omega
  generalize M.sorted fl = sl at HS hs2 ⊢
  clear hle HR HZ
  go_enter Try.func39, Try.ntmps39
  go_wp2_with fail
  refine HC.out.mono ?_
  rintro e w1 ⟨v1, rfl, ho1, hb1⟩
  have O1 := M.hidm ho1
  have B1 := M.hidm hb1
  clear ho1 hb1
  go_wp2_with fail
  refine (HS.out w1 v1 O1.out).mono ?_
  rintro e w2 ⟨rfl, ho2, hg2⟩
  have B2 : Hid (Below w.heap.size w w2) := B1.out.grown hg2 B1.out.size (fun j hj => (World.ownsRow.lt O1.out j hj).1)
  have O2 := M.hidm ho2
  clear ho2 hg2
  go_wp2_with fail
  refine (compact_own w2 w.heap.size v1 sl O2.out hs2).mono ?_
  rintro e w3 ⟨v3, rfl, ho3, hg3⟩
  have B3 : Hid (Below w.heap.size w w3) := B2.out.grown hg3 B2.out.size (fun j hj => (World.ownsRow.lt O2.out j hj).1)
  have O3 := M.hidm ho3
  clear ho3 hg3
  go_wp2
  go_ret
  exact ⟨_, rfl, O3.out, B3.out⟩

/-- Rows of numbers of the call's own, each told by its slice. -/
def M.OwnR (w : World) (base : Nat) (v : Value) (us : List Value) : Prop := w.ownsRow base 26 1 v us.length us
def M.Each (w : World) (base : Nat) (us : List Value) (zss : List (List Int)) : Prop := us.length = zss.length ∧ ∀ (i : Nat) (u : Value) (z : List Int), us[i]? = some u → zss[i]? = some z → M.OwnN w base u z
theorem M.OwnR.nil (w : World) (base : Nat) : M.OwnR w base (.slice none 0 0) [] := ⟨rfl, .inl ⟨rfl, rfl⟩⟩
theorem M.Each.nil (w : World) (base : Nat) : M.Each w base [] [] := ⟨rfl, fun i u z h => by cases h⟩
theorem M.OwnR.below {w W : World} {base : Nat} {v : Value} {us : List Value} (h : M.OwnR w base v us) (hb : Below w.heap.size w W) : M.OwnR W base v us := by
  obtain ⟨hl, h0 | ⟨g, cap, cur, hv, hg, hh, hn, hc, hz, ht⟩⟩ := h
  · exact ⟨hl, .inl h0⟩
  · exact ⟨hl, .inr ⟨g, cap, cur, hv, hg, by rw [hb.block g (Array.getElem?_eq_some_iff.1 hh).1]; exact hh, hn, hc, hz, ht⟩⟩
theorem M.Each.below {w W : World} {base : Nat} {us : List Value} {zss : List (List Int)} (h : M.Each w base us zss) (hb : Below w.heap.size w W) : M.Each W base us zss := ⟨h.1, fun i u z h1 h2 => (h.2 i u z h1 h2).below hb⟩
/-- A row of slices is no row of numbers. -/
theorem M.Each.grown {w W : World} {base : Nat} {us us' : List Value} {v : Value} {zss : List (List Int)} (h : M.Each w base us zss) (hr : M.OwnR w base v us') (hg : w.grownBy W v.ownBlock) : M.Each W base us zss := ⟨h.1, fun i u z h1 h2 => by
  have ho := h.2 i u z h1 h2
  refine ho.grown hg fun j hj e => ?_
  obtain ⟨-, ⟨rfl, -⟩ | ⟨g, cap, cur, hv, -, hh, -⟩⟩ := hr
  · cases e
  · rw [hv] at e
    cases e
    obtain ⟨-, ⟨rfl, -⟩ | ⟨g', cap', cur', hv', -, hh', -⟩⟩ := ho
    · cases hj
    · rw [hv'] at hj
      cases hj
      rw [hh] at hh'
      have := Option.some.inj hh'
      injection this with _ e2 _
      exact absurd e2 (by decide)⟩
theorem M.Each.snoc {w : World} {base : Nat} {us : List Value} {zss : List (List Int)} {u : Value} {z : List Int} (h : M.Each w base us zss) (hu : M.OwnN w base u z) : M.Each w base (us ++ [u]) (zss ++ [z]) := by
  refine ⟨by simp [h.1], fun i x y h1 h2 => ?_⟩
  by_cases hi : i < us.length
  · rw [List.getElem?_append_left hi] at h1
    rw [List.getElem?_append_left (by rw [← h.1]; exact hi)] at h2
    exact h.2 i x y h1 h2
  · have hlt := (List.getElem?_eq_some_iff.1 h1).1
    rw [List.length_append, List.length_singleton] at hlt
    obtain rfl : i = us.length := by omega
    rw [List.getElem?_concat_length] at h1
    rw [h.1, List.getElem?_concat_length] at h2
    cases h1; cases h2; exact hu
theorem M.OwnR.sl {w : World} {base : Nat} {v : Value} {us : List Value} (h : M.OwnR w base v us) : ∃ a cap, v = .slice a us.length cap := by
  obtain ⟨-, ⟨rfl, h0⟩ | ⟨g, cap, cur, hv, -⟩⟩ := h
  · exact ⟨none, 0, by rw [h0]⟩
  · exact ⟨_, _, hv⟩
theorem M.OwnR.rows {w : World} {base : Nat} {a : Option Addr} {n cap : Nat} {us : List Value} {zss : List (List Int)} (h : M.OwnR w base (.slice a n cap) us) (he : M.Each w base us zss) : M.RowsN w a n zss := by
  obtain ⟨-, ⟨h0, h1⟩ | ⟨g, cap', cur, hv, -, hh, hn, -, hz, ht⟩⟩ := h
  · cases h0
    exact ⟨by rw [← he.1, h1], fun hp => absurd hp (Nat.lt_irrefl _)⟩
  · cases hv
    refine ⟨he.1, fun _ => ⟨g, 0, rfl, fun i hi => ?_⟩⟩
    have hi' : i < us.length := by rw [he.1]; exact hi
    have ho := he.2 i us[i] zss[i] (List.getElem?_eq_getElem hi') (List.getElem?_eq_getElem hi)
    have hc : w.cell? ⟨g, 0 + i, none⟩ = some us[i] := by
      have e : us[i]? = some us[i] := List.getElem?_eq_getElem hi'
      rw [Nat.mul_one] at ht
      have e2 := congrArg (fun l => l[i]?) ht
      simp only [List.getElem?_take_of_lt hi'] at e2
      rw [e] at e2
      simp only [World.cell?, hh, Nat.zero_add]
      simpa using e2
    rcases ho.at with ⟨e1, e2⟩ | ⟨g', cap', e1, -, -, hN⟩
    · refine ⟨none, 0, ?_, ?_, fun _ => rfl⟩
      · rw [hc, e1, e2]; rfl
      · rw [e2]; exact ⟨rfl, fun hp => absurd hp (Nat.lt_irrefl _)⟩
    · exact ⟨_, cap', by rw [hc, e1], ⟨rfl, fun _ => ⟨g', 0, rfl, fun k hk => by rw [Nat.zero_add]; exact hN.cell k hk⟩⟩, fun e => by cases e⟩

/-- Every Id of a chain is a mark's. -/
theorem M.up_mem {ms : List M.MkD} {z : Int} : ∀ (f : Nat) (id : Int), z ∈ M.up ms f id → ∃ m ∈ ms, m.id = z
  | 0, _, h => by cases h
  | f + 1, id, h => by
    cases hf : M.found ms id with
    | none => rw [M.up_none hf] at h; cases h
    | some m =>
      rw [M.up_some hf] at h
      rcases List.mem_cons.1 h with rfl | h'
      · exact ⟨m, (M.found_id hf).2, rfl⟩
      · exact M.up_mem f _ h'
theorem M.asc_ids {ms : List M.MkD} (h : M.Asc ms) : (ms.map fun m => m.id).Pairwise (· < ·) := by
  rw [List.pairwise_iff_getElem]
  intro i j hi hj hij
  simp only [List.getElem_map]
  exact h.at hij (by simpa using hj)
theorem M.keep_eq {ms : List M.MkD} (hr : M.MarksR ms) (ids : List Int) : Lib.compact (M.sorted (ids.map (M.chain ms)).flatten) = M.keep ms (M.chains ms ids) ms.length := by
  have hc : (ids.map (M.chain ms)).flatten = M.chains ms ids := by unfold M.chains; rw [List.flatMap_def]
  rw [hc]
  obtain ⟨h1, h2⟩ := M.compact_sorted (M.chains ms ids)
  refine M.rise_eq h2 ?_ fun z => ?_
  · unfold M.keep
    rw [List.take_length]
    exact List.Pairwise.filter _ (M.asc_ids hr.asc)
  · rw [h1]
    unfold M.keep
    rw [List.take_length, List.mem_filter]
    simp only [decide_eq_true_eq]
    refine ⟨fun h => ⟨?_, h⟩, fun h => h.2⟩
    unfold M.chains at h
    obtain ⟨id, -, hid⟩ := List.mem_flatMap.1 h
    unfold M.chain at hid
    rw [List.mem_reverse] at hid
    obtain ⟨m, hm, e⟩ := M.up_mem 61 id hid
    exact List.mem_map.2 ⟨m, hm, e⟩
end Go.Proofs.Ytfkadlnfkgheaaa
