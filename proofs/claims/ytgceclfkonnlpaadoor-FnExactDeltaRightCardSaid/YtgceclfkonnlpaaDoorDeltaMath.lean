/-
  Right deltas, with no word of the program; the set of the paths that a delta touches.
-/
import Derived.Test.YtgceclfkonnlpaaDoorMapMath
import Derived.Test.YtgceclfkonnlpaaDoorStrMath
import Derived.Test.YtgceclfkonnlpaaDoorIRiseWalk
import Derived.Maps.OwnSet
namespace Go.Proofs.YtgceclfkonnlpaaDoor
open Go.RowKit Go.Maps

/-- The first k texts are paths and rise. -/
structure M.PRise (ss : List ByteArray) (k : Nat) : Prop where
  path : ∀ i (_ : i < k) (h : i < ss.length), M.pathR ss[i] = true
  rise : ∀ i (_ : i < k) (_ : 0 < i) (h : i < ss.length), M.ltB ss[i - 1] ss[i]
theorem M.PRise.zero (ss : List ByteArray) : M.PRise ss 0 := ⟨fun _ h => absurd h (Nat.not_lt_zero _), fun _ h => absurd h (Nat.not_lt_zero _)⟩
theorem M.PRise.next {ss : List ByteArray} {k : Nat} {s : ByteArray} (h : M.PRise ss k) (hk : ss[k]? = some s) (h1 : M.pathR s = true) (h2 : ∀ g, 0 < k → ss[k - 1]? = some g → M.ltB g s) : M.PRise ss (k + 1) := by
  obtain ⟨hlt, rfl⟩ := List.getElem?_eq_some_iff.1 hk
  refine ⟨fun i hi h' => ?_, fun i hi h0 h' => ?_⟩
  · by_cases e : i = k
    · subst e; exact h1
    · exact h.path i (by omega) h'
  · by_cases e : i = k
    · subst e; exact h2 _ h0 (List.getElem?_eq_getElem (by omega))
    · exact h.rise i (by omega) h0 h'
theorem M.PRise.pathAt {ss : List ByteArray} {k : Nat} {s : ByteArray} (h : M.PRise ss ss.length) (hk : ss[k]? = some s) : M.pathR s = true := by
  obtain ⟨hlt, rfl⟩ := List.getElem?_eq_some_iff.1 hk
  exact h.path k hlt hlt
theorem M.PRise.riseAt {ss : List ByteArray} {k : Nat} {f g : ByteArray} (h : M.PRise ss ss.length) (hk : ss[k + 1]? = some f) (hg : ss[k]? = some g) : M.ltB g f := by
  obtain ⟨hlt, rfl⟩ := List.getElem?_eq_some_iff.1 hk
  obtain ⟨_, rfl⟩ := List.getElem?_eq_some_iff.1 hg
  exact h.rise (k + 1) hlt (by omega) hlt
theorem M.PRise.pair {ss : List ByteArray} (h : M.PRise ss ss.length) : ss.Pairwise M.ltB := by
  rw [List.pairwise_iff_getElem]
  intro i j hi hj hij
  induction j with
  | zero => omega
  | succ j ih =>
    have h1 := h.rise (j + 1) hj (by omega) hj
    simp only [Nat.add_sub_cancel] at h1
    by_cases e : i = j
    · subst e; exact h1
    · exact M.ltB_trans (ih (by omega) (by omega)) h1
theorem M.Rise.pair {fs : List M.FileD} (h : M.Rise fs fs.length) : fs.Pairwise fun f g => M.ltB f.path g.path := by
  rw [List.pairwise_iff_getElem]
  intro i j hi hj hij
  exact M.rise_of_adj (fun i h0 h' => h.rise i h' h0 h') i j hij hj
theorem M.ltB_ne {a b : ByteArray} (h : M.ltB a b) : a ≠ b := fun e => by subst e; exact M.ltB_irrefl _ h
/-- A right delta. -/
structure M.DeltaR (ss : List ByteArray) (fs : List M.FileD) : Prop where
  len1 : ss.length ≤ 40
  len2 : fs.length ≤ 40
  drops : M.PRise ss ss.length
  puts : M.Rise fs fs.length
  apart : ∀ s ∈ ss, ∀ f ∈ fs, f.path ≠ s

/-- The set of paths. -/
def M.pset (l : List ByteArray) : DataW Unit := setOf (.agg []) (l.map M.key)
theorem M.pset_snoc (l : List ByteArray) (s : ByteArray) : M.pset (l ++ [s]) = (M.pset l).put (M.key s) (.agg []) := by unfold M.pset; rw [List.map_append]; exact setOf_snoc _ _ _
theorem M.key_same (p q : ByteArray) : (M.key p).sameKey (M.key q) = true ↔ p = q := by
  constructor
  · intro h
    by_cases e : M.key p = M.key q
    · exact M.key_inj e
    · rw [sameKey_ne e] at h; cases h
  · rintro rfl; exact WideAt.sameKey_self (M.key_lit _)
theorem M.pset_has (l : List ByteArray) (p : ByteArray) : has (M.pset l) (M.key p) = true ↔ p ∈ l := by
  unfold M.pset
  rw [has_setOf _ _ _ (fun x hx => by obtain ⟨s, _, rfl⟩ := List.mem_map.1 hx; exact M.key_lit s), List.any_map, List.any_eq_true]
  constructor
  · rintro ⟨s, hs, h⟩
    rw [← (M.key_same s p).1 h]; exact hs
  · intro h
    exact ⟨p, h, (M.key_same p p).2 rfl⟩
theorem M.add_le : ∀ (xs L : List Lit), (xs.foldl addKey L).length ≤ L.length + xs.length
  | [], L => by simp
  | x :: xs, L => by
    rw [List.foldl_cons]
    have h := M.add_le xs (addKey L x)
    have h2 : (addKey L x).length ≤ L.length + 1 := by unfold addKey; split <;> simp
    rw [List.length_cons]; omega
theorem M.add_all : ∀ (xs L : List ByteArray), (∀ x ∈ xs, x ∉ L) → xs.Pairwise (fun a b => a ≠ b) → (xs.map M.key).foldl addKey (L.map M.key) = (L ++ xs).map M.key
  | [], L, _, _ => by simp
  | x :: xs, L, h, hp => by
    rw [List.map_cons, List.foldl_cons]
    have hx : (L.map M.key).any (fun y => y.sameKey (M.key x)) = false := by
      rw [List.any_map, List.any_eq_false]
      intro y hy hs
      have := (M.key_same y x).1 hs
      subst this
      exact h y (List.mem_cons_self ..) hy
    have e : addKey (L.map M.key) (M.key x) = (L ++ [x]).map M.key := by unfold addKey; rw [hx]; simp
    rw [e, M.add_all xs (L ++ [x]) (fun y hy hm => ?_) (List.pairwise_cons.1 hp).2]
    · simp
    · rcases List.mem_append.1 hm with h1 | h1
      · exact h y (List.mem_cons_of_mem _ hy) h1
      · rw [List.mem_singleton] at h1
        exact (List.pairwise_cons.1 hp).1 y hy h1.symm
theorem M.add_lt : ∀ (xs L : List ByteArray), (∃ x ∈ xs, x ∈ L) → ((xs.map M.key).foldl addKey (L.map M.key)).length < L.length + xs.length
  | [], L, h => by obtain ⟨x, hx, _⟩ := h; cases hx
  | x :: xs, L, h => by
    rw [List.map_cons, List.foldl_cons]
    by_cases hx : x ∈ L
    · have e : addKey (L.map M.key) (M.key x) = L.map M.key := by
        unfold addKey
        rw [if_pos]
        rw [List.any_map, List.any_eq_true]
        exact ⟨x, hx, (M.key_same x x).2 rfl⟩
      rw [e]
      have := M.add_le (xs.map M.key) (L.map M.key)
      simp at this ⊢
      omega
    · have e : addKey (L.map M.key) (M.key x) = (L ++ [x]).map M.key := by
        unfold addKey
        rw [if_neg]
        · simp
        · intro hs
          rw [List.any_map, List.any_eq_true] at hs
          obtain ⟨y, hy, h1⟩ := hs
          rw [← (M.key_same y x).1 h1] at hx
          exact hx hy
      rw [e]
      have h' : ∃ y ∈ xs, y ∈ L ++ [x] := by
        obtain ⟨y, hy, hyL⟩ := h
        rcases List.mem_cons.1 hy with rfl | hy
        · exact absurd hyL hx
        · exact ⟨y, hy, List.mem_append_left _ hyL⟩
      have := M.add_lt xs (L ++ [x]) h'
      simp at this ⊢
      omega
/-- As many different ones as there are in both lists: just where they have none in common. -/
theorem M.pset_size {ss ts : List ByteArray} (h1 : ss.Pairwise fun a b => a ≠ b) (h2 : ts.Pairwise fun a b => a ≠ b) : Maps.size (M.pset (ss ++ ts)) = ss.length + ts.length ↔ ∀ s ∈ ss, ∀ t ∈ ts, t ≠ s := by
  have e : Maps.size (M.pset (ss ++ ts)) = ((ts.map M.key).foldl addKey (ss.map M.key)).length := by
    unfold M.pset
    rw [size_setOf _ _ (fun x hx => by obtain ⟨s, _, rfl⟩ := List.mem_map.1 hx; exact M.key_lit s), List.map_append, List.foldl_append]
    have := M.add_all ss [] (fun _ _ h => by cases h) h1
    simp only [List.map_nil, List.nil_append] at this
    rw [this]
  rw [e]
  constructor
  · intro h s hs t ht e2
    subst e2
    have := M.add_lt ts ss ⟨t, ht, hs⟩
    omega
  · intro h
    rw [M.add_all ts ss (fun x hx hm => h x hm x hx rfl) h2]
    simp
end Go.Proofs.YtgceclfkonnlpaaDoor
