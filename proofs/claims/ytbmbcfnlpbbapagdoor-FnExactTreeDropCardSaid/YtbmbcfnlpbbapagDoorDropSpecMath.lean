/-
  What is below a path, and that in a right tree it is there then.
-/
import Derived.Test.YtbmbcfnlpbbapagDoorDropMath
import Derived.Test.YtbmbcfnlpbbapagDoorSTreeWalk
namespace Go.Proofs.YtbmbcfnlpbbapagDoor
open Go.RowKit

theorem M.pre_iff (l t : List UInt8) : Lib.hasPrefix l (t ++ [47]) = true ↔ ∃ r, l = t ++ 47 :: r := by
  unfold Lib.hasPrefix
  rw [List.isPrefixOf_iff_prefix]
  constructor
  · rintro ⟨r, rfl⟩; exact ⟨r, by simp⟩
  · rintro ⟨r, rfl⟩; exact ⟨r, by simp⟩
theorem M.path_head {s : ByteArray} {r : List UInt8} (h : M.pathR s = true) : s.data.toList ≠ 47 :: r := by
  intro e
  unfold M.pathR at h
  rw [e, M.splitL_hit rfl] at h
  simp [M.partR] at h
theorem M.last_le {s : ByteArray} {i : Nat} (hi : i < s.size) (hc : s[i] = 47) : ∃ k : Nat, Lib.lastIndexByte s 47 = k ∧ i ≤ k ∧ k < s.size ∧ s.data[k]! = 47 := by
  rcases Lib.lastIndexByte_spec s 47 with ⟨_, h2⟩ | ⟨k, hk, e1, e2, e3⟩
  · exact absurd (by rw [M.at_bang hi, hc]; rfl) (h2 i hi)
  · refine ⟨k, e1, ?_, hk, ?_⟩
    · rcases Nat.lt_or_ge k i with h | h
      · exact absurd (by rw [M.at_bang hi, hc]; rfl) (e3 i h hi)
      · exact h
    · apply UInt8.toNat_inj.1
      have : (s.data[k]!).toNat = 47 := by omega
      rw [this]; rfl
theorem M.below_there {fs : List M.FileD} (ht : M.TreeR fs) (p : ByteArray) : ∀ (n : Nat) (f : M.FileD), f ∈ fs → f.path.size ≤ n → (∃ r, f.path.data.toList = p.data.toList ++ 47 :: r) → ∃ k, M.There fs p k
  | 0, f, _, hn, ⟨r, hr⟩ => by
    have := congrArg List.length hr
    rw [M.len_size] at this
    simp at this; omega
  | n + 1, f, hf, hn, ⟨r, hr⟩ => by
    obtain ⟨j, hj, rfl⟩ := List.getElem_of_mem hf
    have hlen := congrArg List.length hr
    rw [M.len_size, List.length_append, M.len_size] at hlen
    simp only [List.length_cons] at hlen
    have hps : p.size < fs[j].path.size := by omega
    have hget : fs[j].path[p.size]'hps = 47 := by
      have h1 : fs[j].path.data.toList[p.size]? = some 47 := by
        rw [hr, List.getElem?_append_right (by rw [M.len_size]; exact Nat.le_refl _), M.len_size]; simp
      have h2 : fs[j].path.data.toList[p.size]? = some (fs[j].path[p.size]'hps) := by
        rw [List.getElem?_eq_getElem (by rw [M.len_size]; exact hps)]; rfl
      rw [h2] at h1
      exact Option.some.inj h1
    obtain ⟨k, hk, hle, hlt, _⟩ := M.last_le hps hget
    have hab : M.aboveB fs[j].path = fs[j].path.extract 0 k := by unfold M.aboveB; rw [hk]; rfl
    have hdata : (M.aboveB fs[j].path).data.toList = fs[j].path.data.toList.take k := by rw [hab, Lib.extract_data]; simp
    have hsz : (M.aboveB fs[j].path).size = k := by
      rw [← M.len_size, hdata, List.length_take, M.len_size]; omega
    rcases ht.up j hj with h0 | ⟨i, hi, e1, _⟩
    · exfalso
      have hk0 : k = 0 := by omega
      have hp0 : p.size = 0 := by omega
      have hpe : p.data.toList = [] := List.length_eq_zero_iff.1 (by rw [M.len_size]; exact hp0)
      rw [hpe] at hr
      have hfr := ht.file j hj
      unfold M.fileR at hfr
      simp only [Bool.and_eq_true] at hfr
      exact M.path_head hfr.1.1.1.1 hr
    · by_cases e : k = p.size
      · refine ⟨i, hi, ?_⟩
        rw [e1]
        apply ByteArray.ext
        apply Array.toList_inj.1
        rw [hdata, hr, e, List.take_append_of_le_length (by rw [M.len_size]; exact Nat.le_refl _), List.take_of_length_le (by rw [M.len_size]; exact Nat.le_refl _)]
      · refine M.below_there ht p n fs[i] (List.getElem_mem hi) (by rw [e1, hsz]; omega) ⟨r.take (k - p.size - 1), ?_⟩
        rw [e1, hdata, hr, List.take_append, M.len_size]
        have h3 : (47 :: r).take (k - p.size) = 47 :: r.take (k - p.size - 1) := by
          obtain ⟨m, hm⟩ : ∃ m, k - p.size = m + 1 := ⟨k - p.size - 1, by omega⟩
          rw [hm]; simp
        rw [h3, List.take_of_length_le (by rw [M.len_size]; omega)]
/-- Where the path is not there, nothing is below it. -/
theorem M.none_below {fs : List M.FileD} (ht : M.TreeR fs) {p : ByteArray} (hn : ∀ k, ¬ M.There fs p k) : ∀ f ∈ fs, M.isBelow f.path p = false := by
  intro f hf
  cases hb : M.isBelow f.path p
  · rfl
  · exfalso
    unfold M.isBelow at hb
    simp only [Bool.or_eq_true, decide_eq_true_eq] at hb
    rcases hb with e | h
    · obtain ⟨j, hj, rfl⟩ := List.getElem_of_mem hf
      exact hn j ⟨hj, e⟩
    · obtain ⟨k, hk⟩ := M.below_there ht p f.path.size f hf (Nat.le_refl _) ((M.pre_iff _ _).1 h)
      exact hn k hk
theorem M.rising_of_tree {fs : List M.FileD} (ht : M.TreeR fs) : M.Rising fs := List.pairwise_iff_getElem.2 (fun i j _ hj hij => ht.rise i j hij hj)
theorem M.rising_ext {gs hs : List M.FileD} (h1 : M.Rising gs) (h2 : M.Rising hs) (h : ∀ f, f ∈ gs ↔ f ∈ hs) : gs = hs := by
  have nd : ∀ {l : List M.FileD}, M.Rising l → l.Nodup := fun hl => hl.imp (fun hab e => by subst e; exact M.ltB_irrefl _ hab)
  exact List.Perm.eq_of_pairwise (le := fun (f g : M.FileD) => M.ltB f.path g.path) (fun (a b : M.FileD) _ _ (hab : M.ltB a.path b.path) (hba : M.ltB b.path a.path) => absurd (M.ltB_trans hab hba) (M.ltB_irrefl _)) h1 h2 ((List.perm_ext_iff_of_nodup (nd h1) (nd h2)).2 h)
theorem M.DropR.unique {fs : List M.FileD} {p : ByteArray} {gs hs : List M.FileD} (h1 : M.DropR fs p gs) (h2 : M.DropR fs p hs) : gs = hs := by
  by_cases hb : 400 < fs.length ∨ 20000 < p.size
  · rw [h1.1 hb, h2.1 hb]
  · by_cases ht : M.TreeR fs
    · obtain ⟨r1, m1⟩ := (h1.2 hb).2 ht
      obtain ⟨r2, m2⟩ := (h2.2 hb).2 ht
      exact M.rising_ext r1 r2 (fun f => (m1 f).trans (m2 f).symm)
    · rw [(h1.2 hb).1 ht, (h2.2 hb).1 ht]
theorem M.rising_filter {fs : List M.FileD} (h : M.Rising fs) (q : M.FileD → Bool) : M.Rising (fs.filter q) := h.filter q
end Go.Proofs.YtbmbcfnlpbbapagDoor
