/-
  What is read of tapes by parts, with no word of the program.
-/
import Derived.Test.YtmafkcnnhkkleaaTapeMath
import Derived.Test.YtmafkcnnhkkleaaPartSW
namespace Go.Proofs.Ytmafkcnnhkkleaa
open Go.RowKit

/-- The blocks of a part; none: they are not there. -/
def M.partB (ts : List M.TapeD) (p : M.PartD) : Option (List ByteArray) :=
  match ts[p.q.toNat]? with
  | none => none
  | some t => if 0 ≤ p.q ∧ t.lab = p.l ∧ 0 ≤ p.s ∧ 0 ≤ p.c ∧ p.c ≤ (t.ss.length : Int) - p.s then some ((t.ss.drop p.s.toNat).take p.c.toNat) else none
def M.bytesOf (ss : List ByteArray) : List UInt8 := ss.flatMap fun s => s.data.toList
theorem M.bytesOf_snoc (ss : List ByteArray) (s : ByteArray) : M.bytesOf (ss ++ [s]) = M.bytesOf ss ++ s.data.toList := by simp [M.bytesOf]
theorem M.bytesOf_nil : M.bytesOf [] = [] := rfl
/-- The bytes of parts, one behind the other; none: one is not there. -/
def M.readB (ts : List M.TapeD) : List M.PartD → Option (List UInt8)
  | [] => some []
  | p :: ps => match M.partB ts p with
    | none => none
    | some bs => (M.readB ts ps).map (M.bytesOf bs ++ ·)
theorem M.readB_app (ts : List M.TapeD) : ∀ (xs ys : List M.PartD), M.readB ts (xs ++ ys) = match M.readB ts xs with | none => none | some L => (M.readB ts ys).map (L ++ ·)
  | [], ys => by
    show M.readB ts ys = (M.readB ts ys).map _
    cases M.readB ts ys <;> simp
  | x :: xs, ys => by
    show (match M.partB ts x with | none => none | some bs => (M.readB ts (xs ++ ys)).map (M.bytesOf bs ++ ·)) = _
    rw [M.readB_app ts xs ys]
    show _ = match (match M.partB ts x with | none => none | some bs => (M.readB ts xs).map (M.bytesOf bs ++ ·)) with | none => none | some L => (M.readB ts ys).map (L ++ ·)
    cases M.partB ts x with
    | none => rfl
    | some bs =>
      cases M.readB ts xs with
      | none => rfl
      | some L =>
        cases M.readB ts ys with
        | none => rfl
        | some K => simp
theorem M.readB_some {ts : List M.TapeD} {ps : List M.PartD} {k : Nat} {p : M.PartD} {L : List UInt8} {bs : List ByteArray} (h : M.readB ts (ps.take k) = some L) (hp : ps[k]? = some p) (hb : M.partB ts p = some bs) : M.readB ts (ps.take (k + 1)) = some (L ++ M.bytesOf bs) := by
  rw [List.take_add_one, hp, M.readB_app, h]
  simp [M.readB, hb]
theorem M.readB_none {ts : List M.TapeD} {ps : List M.PartD} {k : Nat} {p : M.PartD} {L : List UInt8} (h : M.readB ts (ps.take k) = some L) (hp : ps[k]? = some p) (hb : M.partB ts p = none) : M.readB ts ps = none := by
  have hl := (List.getElem?_eq_some_iff.1 hp).1
  have hd : ps.drop k = p :: ps.drop (k + 1) := by
    rw [List.drop_eq_getElem_cons hl, (List.getElem?_eq_some_iff.1 hp).2]
  have := M.readB_app ts (ps.take k) (ps.drop k)
  rw [List.take_append_drop, h, hd] at this
  rw [this]
  simp [M.readB, hb]
/-- What TapesRead tells: a text and a code. -/
def M.tread (ts : List M.TapeD) (ps : List M.PartD) (many : Int) : ByteArray × Int :=
  if 400 < ts.length ∨ 400 < ps.length then (⟨#[]⟩, 2) else
  if M.tapesR ts = false ∨ many < 0 then (⟨#[]⟩, 1) else
  match M.readB ts ps with
  | none => (⟨#[]⟩, 6)
  | some L => if (L.length : Int) < many then (⟨#[]⟩, 4) else (⟨(L.take many.toNat).toArray⟩, 0)
theorem M.partB_no {ts : List M.TapeD} {p : M.PartD} (h : ¬ (0 ≤ p.q ∧ p.q < (ts.length : Int))) : M.partB ts p = none := by
  unfold M.partB
  cases h1 : ts[p.q.toNat]? with
  | none => rfl
  | some t =>
    have := (List.getElem?_eq_some_iff.1 h1).1
    simp only
    rw [if_neg (fun hc => h ⟨hc.1, by omega⟩)]
theorem M.partB_at {ts : List M.TapeD} {p : M.PartD} {Q : Nat} {t : M.TapeD} (hq : p.q = (Q : Int)) (h : ts[Q]? = some t) : M.partB ts p = if t.lab = p.l ∧ 0 ≤ p.s ∧ 0 ≤ p.c ∧ p.c ≤ (t.ss.length : Int) - p.s then some ((t.ss.drop p.s.toNat).take p.c.toNat) else none := by
  unfold M.partB
  rw [hq, Int.toNat_natCast, h]
  simp
theorem M.tapesR_blk {ts : List M.TapeD} (h : M.tapesR ts = true) {t : M.TapeD} (ht : t ∈ ts) : t.ss.length ≤ 300 ∧ ∀ s ∈ t.ss, s.size = 64 := by
  have := M.tapeR_iff.1 ((M.tapesR_iff.1 h).2 t ht)
  exact ⟨by omega, this.2.2.2.2⟩
end Go.Proofs.Ytmafkcnnhkkleaa
