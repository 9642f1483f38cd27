/-
  Right catalogs: what the program looks at host by host, the specification looks at pair by pair.
-/
import Derived.Test.YtpokcbcffijheabICatR
namespace Go.Proofs.Ytpokcbcffijheab
open Go.RowKit

theorem M.ris_all {f : M.DumpD → Int} {l : List M.DumpD} (h : M.risF f l) : ∀ (m i : Nat) x y, l[i]? = some x → l[i + m + 1]? = some y → f x < f y
  | 0, i, x, y, hx, hy => h i x y hx hy
  | m + 1, i, x, y, hx, hy => by
    have hl : i + m + 1 < l.length := by have := (List.getElem?_eq_some_iff.1 hy).1; omega
    have h1 := M.ris_all h m i x _ hx (List.getElem?_eq_getElem hl)
    have h2 := h (i + m + 1) _ y (List.getElem?_eq_getElem hl) (by rw [show i + m + 1 + 1 = i + (m + 1) + 1 by omega]; exact hy)
    omega
theorem M.ris_pw {f : M.DumpD → Int} {l : List M.DumpD} : M.risF f l ↔ l.Pairwise fun x y => f x < f y := by
  rw [List.pairwise_iff_getElem]
  constructor
  · intro h i j hi hj hij
    exact M.ris_all h (j - i - 1) i _ _ (List.getElem?_eq_getElem hi) (by rw [show i + (j - i - 1) + 1 = j by omega]; exact List.getElem?_eq_getElem hj)
  · intro h i x y hx hy
    obtain ⟨hi, rfl⟩ := List.getElem?_eq_some_iff.1 hx
    obtain ⟨hj, rfl⟩ := List.getElem?_eq_some_iff.1 hy
    exact h i (i + 1) hi hj (Nat.lt_succ_self _)
theorem M.ofH_cons (d : M.DumpD) (ds : List M.DumpD) (h : ByteArray) : M.ofH (d :: ds) h = if (d.host.toList == h.toList) = true then d :: M.ofH ds h else M.ofH ds h := by
  unfold M.ofH
  rw [List.filter_cons]
theorem M.ofH_pw {f : M.DumpD → Int} : ∀ (ds : List M.DumpD), (∀ h, (M.ofH ds h).Pairwise fun x y => f x < f y) ↔ ds.Pairwise fun x y => x.host = y.host → f x < f y
  | [] => ⟨fun _ => List.Pairwise.nil, fun _ _ => List.Pairwise.nil⟩
  | d :: ds => by
    rw [List.pairwise_cons, ← M.ofH_pw ds]
    constructor
    · intro h
      constructor
      · intro y hy he
        have h1 := h d.host
        rw [M.ofH_cons, if_pos (by simp)] at h1
        exact (List.pairwise_cons.1 h1).1 y (List.mem_filter.2 ⟨hy, by rw [he]; simp⟩)
      · intro x
        have h1 := h x
        rw [M.ofH_cons] at h1
        split at h1
        · exact (List.pairwise_cons.1 h1).2
        · exact h1
    · rintro ⟨h1, h2⟩ x
      rw [M.ofH_cons]
      split
      · rename_i e
        refine List.pairwise_cons.2 ⟨fun y hy => ?_, h2 x⟩
        obtain ⟨hy1, hy2⟩ := List.mem_filter.1 hy
        exact h1 y hy1 ((M.sameT.1 e).trans (M.sameT.1 hy2).symm)
      · exact h2 x
/-- What the specification looks at of one dump. -/
def M.catAt (ds : List M.DumpD) (i : Nat) (d : M.DumpD) : Prop := M.dumpR d = true ∧ (∀ j g, i = j + 1 → ds[j]? = some g → g.id < d.id) ∧ M.MarksR (M.marksOf ds d.host) ∧ ∀ k g, k < i → ds[k]? = some g → g.host = d.host → g.run < d.run
theorem M.catP_iff (ds : List M.DumpD) : M.catP ds ↔ (ds.length ≤ 40 ∧ ∀ i d, ds[i]? = some d → M.catAt ds i d) := by
  unfold M.catP
  constructor
  · rintro ⟨h1, h2, h3, h4⟩
    refine ⟨h1, fun i d hd => ⟨List.all_eq_true.1 h2 d (List.mem_of_getElem? hd), fun j g hj hg => h3 j g d hg (by rw [← hj]; exact hd), ?_, fun k g hk hg he => ?_⟩⟩
    · refine (h4 d.host ?_).1
      exact List.ne_nil_of_mem (List.mem_filter.2 ⟨List.mem_of_getElem? hd, by simp⟩)
    · have h5 : ds.Pairwise fun x y => x.host = y.host → x.run < y.run := by
        refine (M.ofH_pw (f := (·.run)) ds).1 fun h => ?_
        by_cases e : M.ofH ds h = []
        · rw [e]; exact List.Pairwise.nil
        · exact M.ris_pw.1 (h4 h e).2
      obtain ⟨hi, rfl⟩ := List.getElem?_eq_some_iff.1 hd
      obtain ⟨hk', rfl⟩ := List.getElem?_eq_some_iff.1 hg
      exact List.pairwise_iff_getElem.1 h5 k i hk' hi hk he
  · rintro ⟨h1, h2⟩
    refine ⟨h1, List.all_eq_true.2 fun d hd => ?_, fun i x y hx hy => (h2 (i + 1) y hy).2.1 i x rfl hx, fun h hne => ?_⟩
    · obtain ⟨i, hi, rfl⟩ := List.getElem_of_mem hd
      exact (h2 i _ (List.getElem?_eq_getElem hi)).1
    · obtain ⟨d, hd, rfl⟩ := M.ofH_mem hne
      obtain ⟨i, hi, rfl⟩ := List.getElem_of_mem hd
      refine ⟨(h2 i _ (List.getElem?_eq_getElem hi)).2.2.1, M.ris_pw.2 ((M.ofH_pw (f := (·.run)) ds).2 ?_ _)⟩
      rw [List.pairwise_iff_getElem]
      intro k j hk hj hkj he
      exact (h2 j _ (List.getElem?_eq_getElem hj)).2.2.2 k _ hkj (List.getElem?_eq_getElem hk) he
end Go.Proofs.Ytpokcbcffijheab
