/-
  Files in a map by their paths: what the map reads as, with no word of the program.
-/
import Derived.Test.YtbmbcfnlpbbapagDoorTreeMath
import Derived.WalkKit
import Derived.Maps.Own
import Derived.Maps.Views
namespace Go.Proofs.YtbmbcfnlpbbapagDoor.M
open Go.Maps

/-- A file's value as an element of a map. -/
def fileElem : Value → Option (DataW FileD × List MemPlace)
  | .agg ⟨[.string p, .bool d, .int .i64 m, .int .i64 t, .string x]⟩ => some (.held ⟨p, d, m, t, x⟩, [])
  | _ => none
theorem fileElem_mk (f : FileD) : fileElem (fval f) = some (.held f, []) := rfl
theorem fileElem_inv {v : Value} {y : DataW FileD × List MemPlace} (h : fileElem v = some y) : ∃ f, v = fval f ∧ y = (.held f, []) := by
  unfold fileElem at h
  split at h
  · exact ⟨⟨_, _, _, _, _⟩, rfl, (Option.some.inj h).symm⟩
  · cases h
/-- The key of a path. -/
def key (p : ByteArray) : Lit := .string p.data.toList
theorem key_inj {p q : ByteArray} (h : key p = key q) : p = q := by
  unfold key at h
  have : p.data.toList = q.data.toList := by simpa using h
  exact ByteArray.ext (Array.toList_inj.1 this)
theorem key_lit (p : ByteArray) : WideAt.IsKeyLit (key p) := by unfold key; simp [WideAt.IsKeyLit]
/-- The map of files by their paths. -/
def dat (fs : List FileD) : DataW FileD := fs.foldl (fun D f => D.put (key f.path) (.held f)) (.map [])
theorem dat_snoc (fs : List FileD) (f : FileD) : dat (fs ++ [f]) = (dat fs).put (key f.path) (.held f) := by simp [dat, List.foldl_append]
theorem dat_isMap_fold : ∀ (fs : List FileD) (D : DataW FileD), IsMap D → IsMap (fs.foldl (fun D f => D.put (key f.path) (.held f)) D)
  | [], _, h => h
  | _ :: fs, _, h => dat_isMap_fold fs _ (h.put _ _)
theorem dat_isMap (fs : List FileD) : IsMap (dat fs) := dat_isMap_fold fs _ isMap_empty
theorem dat_look_fold (p : ByteArray) (z : DataW FileD) : ∀ (fs : List FileD) (D : DataW FileD), IsMap D →
    ((∃ k, ∃ h : k < fs.length, fs[k].path = p ∧ (fs.foldl (fun D f => D.put (key f.path) (.held f)) D).atKey (key p) z = .held fs[k]) ∨
      (∀ k (h : k < fs.length), fs[k].path ≠ p) ∧ (fs.foldl (fun D f => D.put (key f.path) (.held f)) D).atKey (key p) z = D.atKey (key p) z)
  | [], _, _ => .inr ⟨fun _ h => absurd h (Nat.not_lt_zero _), rfl⟩
  | f :: fs, D, hD => by
    rcases dat_look_fold p z fs (D.put (key f.path) (.held f)) (hD.put _ _) with ⟨k, hk, h1, h2⟩ | ⟨h1, h2⟩
    · exact .inl ⟨k + 1, by simp; omega, by simpa using h1, by simpa using h2⟩
    · by_cases e : f.path = p
      · refine .inl ⟨0, by simp, by simpa using e, ?_⟩
        rw [List.foldl_cons, h2, ← e, atKey_put_same hD (key_lit _)]
        rfl
      · refine .inr ⟨fun k hk => ?_, ?_⟩
        · cases k with
          | zero => simpa using e
          | succ k => simpa using h1 k (by simpa using hk)
        · rw [List.foldl_cons, h2, atKey_put_other (fun h => e (key_inj h).symm)]
/-- What is found of a path in the map is what is found of it in the list. -/
theorem dat_look (p : ByteArray) (z : DataW FileD) (fs : List FileD) :
    (∃ k, ∃ h : k < fs.length, fs[k].path = p ∧ (dat fs).atKey (key p) z = .held fs[k]) ∨ (∀ k (h : k < fs.length), fs[k].path ≠ p) ∧ (dat fs).atKey (key p) z = z :=
  dat_look_fold p z fs (.map []) isMap_empty
end Go.Proofs.YtbmbcfnlpbbapagDoor.M
