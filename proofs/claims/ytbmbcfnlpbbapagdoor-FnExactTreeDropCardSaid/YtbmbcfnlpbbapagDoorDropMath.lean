/-
  What is left of a map of files while those below a path are taken from it.
-/
import Derived.Test.YtbmbcfnlpbbapagDoorCopyS
import Derived.Lib.Strings
namespace Go.Proofs.YtbmbcfnlpbbapagDoor
open Go.RowKit Go.Maps

/-- A path is another one, or below it. -/
def M.isBelow (p top : ByteArray) : Bool := decide (p = top) || Lib.hasPrefix p.data.toList (top.data.toList ++ [47])
/-- What TreeDrop tells. -/
def M.DropR (fs : List M.FileD) (p : ByteArray) (gs : List M.FileD) : Prop :=
  (400 < fs.length ∨ 20000 < p.size → gs = []) ∧ (¬ (400 < fs.length ∨ 20000 < p.size) → (¬ M.TreeR fs → gs = fs) ∧ (M.TreeR fs → M.Rising gs ∧ ∀ f, f ∈ gs ↔ f ∈ fs ∧ M.isBelow f.path p = false))
/-- The map while it is gone through. -/
structure M.Drop (fs : List M.FileD) (p : ByteArray) (D : DataW M.FileD) (left : Lit → Bool) : Prop where
  iff : ∀ f, (∀ z, D.atKey (M.key f.path) z = .held f) ↔ f ∈ fs ∧ (left (M.key f.path) = true ∨ M.isBelow f.path p = false)
  key : ∀ kl f, (∀ z, D.atKey kl z = .held f) → kl = M.key f.path
theorem M.held_ne (f g : M.FileD) (h : (DataW.held f : DataW M.FileD) = .held g) : f = g := by simpa using h
theorem M.dat_key_fold : ∀ (fs : List M.FileD) (D : DataW M.FileD), (∀ kl f, (∀ z, D.atKey kl z = .held f) → kl = M.key f.path) → IsMap D →
    ∀ kl f, (∀ z, (fs.foldl (fun D f => D.put (M.key f.path) (.held f)) D).atKey kl z = .held f) → kl = M.key f.path
  | [], _, h, _ => h
  | g :: fs, D, h, hD => by
    refine M.dat_key_fold fs (D.put (M.key g.path) (.held g)) (fun kl f hf => ?_) (hD.put _ _)
    by_cases e : kl = M.key g.path
    · subst e
      have := hf .nil
      rw [atKey_put_same hD (M.key_lit _)] at this
      rw [M.held_ne _ _ this]
    · exact h kl f (fun z => by have := hf z; rwa [atKey_put_other e] at this)
theorem M.dat_key (fs : List M.FileD) : ∀ kl f, (∀ z, (M.dat fs).atKey kl z = .held f) → kl = M.key f.path :=
  M.dat_key_fold fs (.map []) (fun kl f h => by have := h .nil; simp [DataW.atKey] at this) isMap_empty
theorem M.dat_iff {fs : List M.FileD} (hr : ∀ i j (_ : i < j) (h' : j < fs.length), M.ltB fs[i].path fs[j].path) (f : M.FileD) : (∀ z, (M.dat fs).atKey (M.key f.path) z = .held f) ↔ f ∈ fs := by
  constructor
  · intro h
    rcases M.dat_look f.path .nil fs with ⟨k, hk, _, e2⟩ | ⟨_, e2⟩
    · rw [h .nil] at e2
      rw [M.held_ne _ _ e2]
      exact List.getElem_mem hk
    · rw [h .nil] at e2; cases e2
  · intro hf z
    obtain ⟨j, hj, rfl⟩ := List.getElem_of_mem hf
    rcases M.dat_look fs[j].path z fs with ⟨k, hk, e1, e2⟩ | ⟨e1, _⟩
    · rw [e2]
      rcases Nat.lt_trichotomy k j with h | h | h
      · have := hr k j h hj; rw [e1] at this; exact absurd this (M.ltB_irrefl _)
      · subst h; rfl
      · have := hr j k h hk; rw [e1] at this; exact absurd this (M.ltB_irrefl _)
    · exact absurd rfl (e1 j hj)
theorem M.Drop.start {fs : List M.FileD} (p : ByteArray) (hr : ∀ i j (_ : i < j) (h' : j < fs.length), M.ltB fs[i].path fs[j].path) : M.Drop fs p (M.dat fs) (Maps.has (M.dat fs)) :=
  ⟨fun f => ⟨fun h => ⟨(M.dat_iff hr f).1 h, .inl (has_true_of_atKey h)⟩, fun h => (M.dat_iff hr f).2 h.1⟩, M.dat_key fs⟩
theorem M.left_same {left : Lit → Bool} (p : ByteArray) : (left (M.key p) && !(M.key p).sameKey (M.key p)) = false := by rw [M.sameKey_self]; simp
theorem M.left_other {left : Lit → Bool} {p q : ByteArray} (h : p ≠ q) : (left (M.key p) && !(M.key p).sameKey (M.key q)) = left (M.key p) := by
  have : (M.key p).sameKey (M.key q) = false := by
    cases hs : (M.key p).sameKey (M.key q)
    · rfl
    · exact absurd (M.sameKey_iff.1 hs) h
  rw [this]; simp
theorem M.Drop.stay {fs : List M.FileD} {p : ByteArray} {D : DataW M.FileD} {left : Lit → Bool} {c : M.FileD} (h : M.Drop fs p D left) (hl : left (M.key c.path) = true) (hb : M.isBelow c.path p = false) :
    M.Drop fs p D (fun z => left z && !z.sameKey (M.key c.path)) := by
  refine ⟨fun f => ?_, h.key⟩
  rw [h.iff f]
  by_cases e : f.path = c.path
  · rw [e, hl, hb]; simp
  · show _ ↔ _ ∧ ((left (M.key f.path) && !(M.key f.path).sameKey (M.key c.path)) = true ∨ _)
    rw [M.left_other e]
theorem M.Drop.gone {fs : List M.FileD} {p : ByteArray} {D : DataW M.FileD} {left : Lit → Bool} {c : M.FileD} (h : M.Drop fs p D left) (hb : M.isBelow c.path p = true) :
    M.Drop fs p (D.del (M.key c.path)) (fun z => left z && !z.sameKey (M.key c.path)) := by
  refine ⟨fun f => ?_, fun kl f hf => ?_⟩
  · by_cases e : f.path = c.path
    · rw [e, hb]
      show _ ↔ _ ∧ ((left (M.key c.path) && !(M.key c.path).sameKey (M.key c.path)) = true ∨ _)
      rw [M.left_same]
      constructor
      · intro h1
        have := h1 .nil
        rw [atKey_del_same] at this
        cases this
      · intro h1; simp at h1
    · show _ ↔ _ ∧ ((left (M.key f.path) && !(M.key f.path).sameKey (M.key c.path)) = true ∨ _)
      rw [M.left_other e, ← h.iff f]
      exact ⟨fun h1 z => by have := h1 z; rwa [atKey_del_other (fun h => e (M.key_inj h))] at this, fun h1 z => by rw [atKey_del_other (fun h => e (M.key_inj h))]; exact h1 z⟩
  · by_cases e : kl = M.key c.path
    · subst e
      have := hf .nil
      rw [atKey_del_same] at this
      cases this
    · exact h.key kl f (fun z => by have := hf z; rwa [atKey_del_other e] at this)
theorem M.Drop.holder {fs : List M.FileD} {p : ByteArray} {D : DataW M.FileD} {left : Lit → Bool} (h : M.Drop fs p D left) (hl : ∀ kl, left kl = false) : M.Holder D (fun f => f ∈ fs ∧ M.isBelow f.path p = false) :=
  ⟨fun f => by rw [h.iff f, hl]; simp, h.key⟩
theorem M.key_of {x : ByteArray} {kl : Lit} (h : keyOf Tryd.prog 9 (.string x) = some kl) : kl = M.key x := by
  simp [keyOf, Tryd.underlying9, mapKey] at h
  exact h.2.symm
theorem M.top_data (p : ByteArray) : (p ++ (⟨#[47]⟩ : ByteArray)).data.toList = p.data.toList ++ [47] := by
  rw [ByteArray.data_append]; simp
end Go.Proofs.YtbmbcfnlpbbapagDoor
