/-
  What SendAt tells, as mathematics.
-/
import Derived.Test.YtafenhodfoflbabWinMath
import Derived.Test.YtafenhodfoflbabSendCopy
import Derived.Test.YtafenhodfoflbabOwnPkts
namespace Go.Proofs.Ytafenhodfoflbab
open Go.RowKit

def M.atR (ss : List ByteArray) (x d t now : Int) : Prop := M.sndR ss x d t = true ∧ 0 ≤ now ∧ now ≤ 1000000000
def M.AtOut (ss : List ByteArray) (x d t now : Int) (sv : List ByteArray) (y0 y1 y2 : Int) (ps : List M.PktD) (code : Int) : Prop :=
  (¬ M.atR ss x d t now ∧ sv = [] ∧ y0 = 0 ∧ y1 = 0 ∧ y2 = 0 ∧ ps = [] ∧ code = 1) ∨
  (M.atR ss x d t now ∧ (x = (ss.length : Int) ∨ now < d) ∧ sv = ss ∧ y0 = x ∧ y1 = d ∧ y2 = t ∧ ps = [] ∧ code = 0) ∨
  (M.atR ss x d t now ∧ ¬ (x = (ss.length : Int) ∨ now < d) ∧ sv = ss ∧ y0 = x ∧ y1 = now + t ∧ y2 = min (2 * t) 64 ∧ ps = M.winL ss x.toNat (min (x.toNat + 4) ss.length - x.toNat) ∧ code = 0)
theorem M.AtOut.same {ss : List ByteArray} {x d t now : Int} {sv sv' : List ByteArray} {y0 y1 y2 z0 z1 z2 : Int} {ps ps' : List M.PktD} {c c' : Int} (h : M.AtOut ss x d t now sv y0 y1 y2 ps c) (h' : M.AtOut ss x d t now sv' z0 z1 z2 ps' c') : sv = sv' ∧ y0 = z0 ∧ y1 = z1 ∧ y2 = z2 ∧ ps = ps' ∧ c = c' := by
  rcases h with ⟨h1, rfl, rfl, rfl, rfl, rfl, rfl⟩ | ⟨h1, h2, rfl, rfl, rfl, rfl, rfl, rfl⟩ | ⟨h1, h2, rfl, rfl, rfl, rfl, rfl, rfl⟩ <;>
    rcases h' with ⟨k1, rfl, rfl, rfl, rfl, rfl, rfl⟩ | ⟨k1, k2, rfl, rfl, rfl, rfl, rfl, rfl⟩ | ⟨k1, k2, rfl, rfl, rfl, rfl, rfl, rfl⟩
  · exact ⟨rfl, rfl, rfl, rfl, rfl, rfl⟩
  · exact absurd k1 h1
  · exact absurd k1 h1
  · exact absurd h1 k1
  · exact ⟨rfl, rfl, rfl, rfl, rfl, rfl⟩
  · exact absurd h2 k2
  · exact absurd h1 k1
  · exact absurd k2 h2
  · exact ⟨rfl, rfl, rfl, rfl, rfl, rfl⟩
theorem M.AtOut.len {ss : List ByteArray} {x d t now : Int} {sv : List ByteArray} {y0 y1 y2 : Int} {ps : List M.PktD} {c : Int} (h : M.AtOut ss x d t now sv y0 y1 y2 ps c) : sv.length ≤ ss.length ∧ ps.length ≤ 4 := by
  rcases h with ⟨_, rfl, _, _, _, rfl, _⟩ | ⟨_, _, rfl, _, _, _, rfl, _⟩ | ⟨_, _, rfl, _, _, _, rfl, _⟩
  · exact ⟨Nat.zero_le _, Nat.zero_le _⟩
  · exact ⟨Nat.le_refl _, Nat.zero_le _⟩
  · exact ⟨Nat.le_refl _, by rw [M.winL_len]; omega⟩
theorem M.snd_parts {ss : List ByteArray} {x d t : Int} (h : M.sndR ss x d t = true) : 1 ≤ ss.length ∧ M.fits ss = true ∧ (0 ≤ x ∧ x ≤ (ss.length : Int)) ∧ (0 ≤ d ∧ d ≤ 2000000000) ∧ 1 ≤ t ∧ t ≤ 64 := by
  unfold M.sndR at h
  simpa [and_assoc] using h
theorem M.nine {W : World} {H : Nat} {T : TypeId} {z0 z1 z2 z3 z4 z5 z6 z7 z8 : Value} (hb : W.heap[H]? = some (.cells #[z0, z1, z2, z3, z4, z5, z6, z7, z8] T (0, 0))) (u0 u1 u2 u3 u4 u5 u6 u7 u8 : Value) : (((((((((W.setCell ⟨H, 0, none⟩ u0).setCell ⟨H, 1, none⟩ u1).setCell ⟨H, 2, none⟩ u2).setCell ⟨H, 3, none⟩ u3).setCell ⟨H, 4, none⟩ u4).setCell ⟨H, 5, none⟩ u5).setCell ⟨H, 6, none⟩ u6).setCell ⟨H, 7, none⟩ u7).setCell ⟨H, 8, none⟩ u8).heap[H]? = some (.cells #[u0, u1, u2, u3, u4, u5, u6, u7, u8] T (0, 0)) := by
  simp [World.setCell, Array.getElem?_modify, hb]
/-- What is told of a sender at a time, in memory. -/
def M.AtVal (ss : List ByteArray) (x d t now : Int) (base : Nat) (e : Ending) (w' : World) : Prop :=
  ∃ (v pv : Value) (sv : List ByteArray) (y0 y1 y2 : Int) (ps : List M.PktD) (code : Int), e = .returned (.agg #[v, .int .i64 y0, .int .i64 y1, .int .i64 y2, .slice none 0 0, .int .i64 0, pv, .int .i64 0, .int .i64 code]) ∧ M.AtOut ss x d t now sv y0 y1 y2 ps code ∧ M.OwnS w' base v sv ∧ M.OwnP w' base pv ps
theorem M.all2 {w : World} (o : Obj) : Below w.heap.size w (w.alloc o) := (Below.refl _ _).alloc (Nat.le_refl _) _
theorem M.OwnP.lower {w : World} {base low : Nat} {v : Value} {ps : List M.PktD} (h : M.OwnP w base v ps) (hb : low ≤ base) : M.OwnP w low v ps := h.down hb
theorem M.OwnP.setLow {w : World} {base : Nat} {v : Value} {ps : List M.PktD} (h : M.OwnP w base v ps) {H : Nat} (hH : H < base) (j : Nat) (u : Value) : M.OwnP (w.setCell ⟨H, j, none⟩ u) base v ps :=
  h.setAt (fun g hg => by have := (World.ownsRow.lt h g hg).1; omega) j u
end Go.Proofs.Ytafenhodfoflbab
