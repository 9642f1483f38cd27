/-
  How a chain goes: it begins at a level of 0, each is its next one's base and of a lower level, it ends at its Id; what is kept is kept again.
-/
import Derived.Test.YtfkadlnfkgheaaaSKept
namespace Go.Proofs.Ytfkadlnfkgheaaa
open Go.RowKit

/-- What is found of a mark's base, with its level. -/
theorem M.base_low {ms : List M.MkD} (hr : M.MarksR ms) {k : Nat} {m : M.MkD} (hk : ms[k]? = some m) : (m.level = 0 ∧ M.found ms m.base = none) ∨ ∃ (t : Nat) (b : M.MkD), t < k ∧ ms[t]? = some b ∧ M.found ms m.base = some b ∧ b.level < m.level := by
  have hm := hr.2.mk hk
  unfold M.mkR at hm
  simp only [Bool.and_eq_true] at hm
  obtain ⟨h1, h2, h3⟩ := hm
  rcases M.base_ahead hr hk with hn | ⟨t, b, ht, hb, hf⟩
  · left
    refine ⟨?_, hn⟩
    by_cases h0 : m.level = 0
    · exact h0
    · rw [if_neg h0] at h3
      unfold M.baseR at h3
      cases hf : M.found (ms.take k) m.base with
      | none => rw [hf] at h3; cases h3
      | some b =>
        exfalso
        have hb := M.found_id hf
        have hmem := List.mem_of_mem_take hb.2
        unfold M.found at hn
        rw [List.find?_eq_none] at hn
        exact hn b hmem (by simpa using hb.1)
  · right
    refine ⟨t, b, ht, hb, hf, ?_⟩
    by_cases h0 : m.level = 0
    · rw [if_pos h0] at h3
      have hb0 := of_decide_eq_true h3
      have := hr.2.mk hb
      unfold M.mkR at this
      simp only [Bool.and_eq_true] at this
      have h5 := of_decide_eq_true this.1
      have h6 := (M.found_id hf).1
      omega
    · rw [if_neg h0] at h3
      unfold M.baseR at h3
      cases hf2 : M.found (ms.take k) m.base with
      | none => rw [hf2] at h3; cases h3
      | some b2 =>
        rw [hf2] at h3
        have hb2 : M.found ms m.base = some b2 := by
          unfold M.found at hf2 ⊢
          rw [← List.take_append_drop k ms, List.find?_append, hf2]
          rfl
        rw [hf] at hb2
        cases hb2
        exact of_decide_eq_true h3
theorem M.found_pos {ms : List M.MkD} {id : Int} {m : M.MkD} (h : M.found ms id = some m) (hr : M.MarksR ms) : ∃ k : Nat, ms[k]? = some m ∧ k < 61 := by
  obtain ⟨k, hk, e⟩ := M.found_place h
  exact ⟨k, e, by have := hr.1; omega⟩
/-- The way up, from one on. -/
def M.Way (ms : List M.MkD) (u : List Int) (id : Int) : Prop := u[0]? = some id ∧ ∀ t z, u[t]? = some z → ∃ m, M.found ms z = some m ∧ (t + 1 = u.length → m.level = 0) ∧ ∀ y, u[t + 1]? = some y → m.base = y ∧ ∃ b, M.found ms y = some b ∧ b.level < m.level
theorem M.up_way {ms : List M.MkD} (hr : M.MarksR ms) : ∀ (f : Nat) (id : Int) (k : Nat) (m : M.MkD), M.found ms id = some m → ms[k]? = some m → k < f → M.Way ms (M.up ms f id) id
  | 0, _, _, _, _, _, h => absurd h (Nat.not_lt_zero _)
  | f + 1, id, k, m, hf, hk, hlt => by
    rw [M.up_some hf]
    have hid := (M.found_id hf).1
    rcases M.base_low hr hk with ⟨h0, hn⟩ | ⟨t, b, ht, hb, hfb, hlow⟩
    · rw [M.up_none hn]
      refine ⟨by rw [hid]; rfl, fun t z hz => ?_⟩
      cases t with
      | zero =>
        have : z = id := by rw [← hid]; simpa using hz.symm
        rw [this]
        exact ⟨m, hf, fun _ => h0, fun y hy => by simp at hy⟩
      | succ t => simp at hz
    · obtain ⟨w0, wt⟩ := M.up_way hr f m.base t b hfb hb (by omega)
      refine ⟨by rw [hid]; rfl, fun t z hz => ?_⟩
      cases t with
      | zero =>
        have : z = id := by rw [← hid]; simpa using hz.symm
        rw [this]
        refine ⟨m, hf, fun e => ?_, fun y hy => ?_⟩
        · exfalso
          have hl := (List.getElem?_eq_some_iff.1 w0).1
          simp only [List.length_cons] at e
          omega
        · rw [List.getElem?_cons_succ, w0] at hy
          cases hy
          exact ⟨rfl, b, hfb, hlow⟩
      | succ t =>
        rw [List.getElem?_cons_succ] at hz
        obtain ⟨m', h1, h2, h3⟩ := wt t z hz
        exact ⟨m', h1, fun e => h2 (by simpa using e), fun y hy => h3 y (by rwa [List.getElem?_cons_succ] at hy)⟩
/-- A chain, from its beginning on. -/
theorem M.chain_way {ms : List M.MkD} (hr : M.MarksR ms) (id : Int) : ∀ (i : Nat) (z : Int), (M.chain ms id)[i]? = some z → ∃ m, M.found ms z = some m ∧ (i = 0 → m.level = 0) ∧ (i + 1 = (M.chain ms id).length → z = id) ∧ ∀ y, 0 < i → (M.chain ms id)[i - 1]? = some y → m.base = y ∧ ∃ b, M.found ms y = some b ∧ b.level < m.level := by
  intro i z hz
  cases hf : M.found ms id with
  | none =>
    unfold M.chain at hz
    rw [M.up_none hf] at hz
    simp at hz
  | some m =>
    obtain ⟨k, hk, hk61⟩ := M.found_pos hf hr
    obtain ⟨w0, wt⟩ := M.up_way hr 61 id k m hf hk hk61
    unfold M.chain at hz ⊢
    generalize M.up ms 61 id = u at w0 wt hz ⊢
    have hi : i < u.length := by have := (List.getElem?_eq_some_iff.1 hz).1; simpa using this
    rw [List.getElem?_reverse hi] at hz
    obtain ⟨m', h1, h2, h3⟩ := wt _ z hz
    refine ⟨m', h1, fun e => h2 (by omega), fun e => ?_, fun y h0 hy => ?_⟩
    · rw [List.length_reverse] at e
      rw [show u.length - 1 - i = 0 by omega, w0] at hz
      exact (Option.some.inj hz).symm
    · rw [List.getElem?_reverse (by omega)] at hy
      exact h3 y (by rw [show u.length - 1 - i + 1 = u.length - 1 - (i - 1) by omega]; exact hy)
theorem M.up_more {ms : List M.MkD} (hr : M.MarksR ms) : ∀ (f g : Nat) (id : Int) (k : Nat) (m : M.MkD), M.found ms id = some m → ms[k]? = some m → k < f → k < g → M.up ms f id = M.up ms g id
  | 0, _, _, _, _, _, _, h, _ => absurd h (Nat.not_lt_zero _)
  | _, 0, _, _, _, _, _, _, h => absurd h (Nat.not_lt_zero _)
  | f + 1, g + 1, id, k, m, hf, hk, h1, h2 => by
    rw [M.up_some hf, M.up_some hf]
    rcases M.base_low hr hk with ⟨-, hn⟩ | ⟨t, b, ht, hb, hfb, -⟩
    · rw [M.up_none hn, M.up_none hn]
    · rw [M.up_more hr f g m.base t b hfb hb (by omega) (by omega)]
theorem M.up_trans {ms : List M.MkD} (hr : M.MarksR ms) {z y : Int} (hy : y ∈ M.up ms 61 z) : ∀ (f : Nat) (id : Int) (k : Nat) (m : M.MkD), M.found ms id = some m → ms[k]? = some m → k < f → z ∈ M.up ms f id → y ∈ M.up ms f id
  | 0, _, _, _, _, _, h, _ => absurd h (Nat.not_lt_zero _)
  | f + 1, id, k, m, hf, hk, hlt, hz => by
    by_cases e : z = id
    · subst e
      rw [M.up_more hr (f + 1) 61 z k m hf hk hlt (by have := hr.1; have := (List.getElem?_eq_some_iff.1 hk).1; omega)]
      exact hy
    · rw [M.up_some hf] at hz ⊢
      rcases List.mem_cons.1 hz with h | h
      · exact absurd (h.trans (M.found_id hf).1) e
      · rcases M.base_low hr hk with ⟨-, hn⟩ | ⟨t, b, ht, hb, hfb, -⟩
        · rw [M.up_none hn] at h; cases h
        · exact List.mem_cons_of_mem _ (M.up_trans hr hy f m.base t b hfb hb (by omega) h)
theorem M.chain_trans {ms : List M.MkD} (hr : M.MarksR ms) {z y id : Int} (hz : z ∈ M.chain ms id) (hy : y ∈ M.chain ms z) : y ∈ M.chain ms id := by
  unfold M.chain at hz hy ⊢
  rw [List.mem_reverse] at hz hy ⊢
  cases hf : M.found ms id with
  | none => rw [M.up_none hf] at hz; cases hz
  | some m =>
    obtain ⟨k, hk, hk61⟩ := M.found_pos hf hr
    exact M.up_trans hr hy 61 id k m hf hk hk61 hz
theorem M.chain_self {ms : List M.MkD} {m : M.MkD} (hm : m ∈ ms) : m.id ∈ M.chain ms m.id := by
  unfold M.chain
  rw [List.mem_reverse]
  cases hf : M.found ms m.id with
  | none =>
    unfold M.found at hf
    rw [List.find?_eq_none] at hf
    exact absurd (by simp) (hf m hm)
  | some x => rw [M.up_some hf, (M.found_id hf).1]; exact List.mem_cons_self
theorem M.mem_keep {ms : List M.MkD} {all : List Int} {z : Int} : z ∈ M.keep ms all ms.length ↔ (∃ m ∈ ms, m.id = z) ∧ z ∈ all := by
  unfold M.keep
  rw [List.take_length, List.mem_filter, List.mem_map]
  simp
theorem M.up_mem' {ms : List M.MkD} {z : Int} : ∀ (f : Nat) (id : Int), z ∈ M.up ms f id → ∃ m ∈ ms, m.id = z
  | 0, _, h => by cases h
  | f + 1, id, h => by
    cases hf : M.found ms id with
    | none => rw [M.up_none hf] at h; cases h
    | some m =>
      rw [M.up_some hf] at h
      rcases List.mem_cons.1 h with rfl | h'
      · exact ⟨m, (M.found_id hf).2, rfl⟩
      · exact M.up_mem' f _ h'
/-- The chain of what is kept is kept. -/
theorem M.keep_chain {ms : List M.MkD} (hr : M.MarksR ms) {ids : List Int} {z y : Int} (hz : z ∈ M.keep ms (M.chains ms ids) ms.length) (hy : y ∈ M.chain ms z) : y ∈ M.keep ms (M.chains ms ids) ms.length := by
  obtain ⟨-, hz⟩ := M.mem_keep.1 hz
  refine M.mem_keep.2 ⟨?_, ?_⟩
  · unfold M.chain at hy
    rw [List.mem_reverse] at hy
    exact M.up_mem' 61 z hy
  · unfold M.chains at hz ⊢
    obtain ⟨i, hi, hzi⟩ := List.mem_flatMap.1 hz
    exact List.mem_flatMap.2 ⟨i, hi, M.chain_trans hr hzi hy⟩
theorem M.keep_again {ms : List M.MkD} (hr : M.MarksR ms) (ids : List Int) : M.keep ms (M.chains ms (M.keep ms (M.chains ms ids) ms.length)) ms.length = M.keep ms (M.chains ms ids) ms.length := by
  have hm : ∀ z, z ∈ M.keep ms (M.chains ms (M.keep ms (M.chains ms ids) ms.length)) ms.length ↔ z ∈ M.keep ms (M.chains ms ids) ms.length := fun z => by
    constructor
    · intro h
      obtain ⟨-, h⟩ := M.mem_keep.1 h
      unfold M.chains at h
      obtain ⟨y, hy, hzy⟩ := List.mem_flatMap.1 h
      exact M.keep_chain hr hy hzy
    · intro h
      obtain ⟨⟨m, hm, e⟩, -⟩ := M.mem_keep.1 h
      refine M.mem_keep.2 ⟨⟨m, hm, e⟩, ?_⟩
      unfold M.chains
      exact List.mem_flatMap.2 ⟨z, h, by rw [← e]; exact M.chain_self hm⟩
  generalize M.chains ms (M.keep ms (M.chains ms ids) ms.length) = A at hm ⊢
  generalize M.chains ms ids = B at hm ⊢
  unfold M.keep at hm ⊢
  refine List.filter_congr fun z hz => ?_
  have := hm z
  simp only [List.mem_filter, hz, true_and, decide_eq_true_eq] at this
  exact decide_eq_decide.2 this
theorem M.KeptOut.again {ms : List M.MkD} {ids zs zs' : List Int} (h : M.KeptOut ms ids zs) (h' : M.KeptOut ms zs zs') : zs' = zs := by
  rcases h with ⟨h1, h2, rfl⟩ | ⟨h1, rfl⟩ <;> rcases h' with ⟨k1, k2, rfl⟩ | ⟨k1, rfl⟩
  · exact M.keep_again h1 ids
  · exact absurd ⟨h1, by have := M.keep_len ms (M.chains ms ids) ms.length; have := h1.1; omega⟩ k1
  · show M.keep ms (M.chains ms []) ms.length = []
    simp [M.keep, M.chains]
  · rfl
end Go.Proofs.Ytfkadlnfkgheaaa
