/-
  What note of the program does: a file more behind those that a reader has noted.
-/
import Derived.Test.YtephjmlcbpfnaaaGreatDoorCurMath
import Derived.Test.YtephjmlcbpfnaaaGreatDoorPart11
import Derived.Test.YtephjmlcbpfnaaaGreatDoorPart6
import Derived.Test.YtephjmlcbpfnaaaGreatDoorIHField
import Derived.Test.YtephjmlcbpfnaaaGreatDoorPart21
import Derived.Test.YtephjmlcbpfnaaaGreatDoorPart16
import Derived.Test.YtephjmlcbpfnaaaGreatDoorPart5
import Derived.Test.YtephjmlcbpfnaaaGreatDoorPart1
import Derived.Deep.AppendLies
import Derived.Deep.RegionLaw
import Derived.Deep.RegionWith
import Derived.Deep.QuietTactic
import Derived.BigQuiet
namespace Go.Proofs.YtephjmlcbpfnaaaGreatDoor
open Go.RowKit

/-- A reader lies in a block: its text and place, the long name, the files. -/
structure M.Rdr (w : World) (g : Nat) (t : ByteArray) (k : Nat) (p : ByteArray) (v : Value) : Prop where
  c0 : w.cell? ⟨g, 0, none⟩ = some (.string t)
  c1 : w.cell? ⟨g, 1, none⟩ = some (.int .i64 k)
  c2 : w.cell? ⟨g, 2, none⟩ = some (.string p)
  c3 : w.cell? ⟨g, 3, none⟩ = some v
  fr : ∀ j, w.frozen? ⟨g, j, none⟩ = false
theorem M.Rdr.cur {w : World} {g : Nat} {t : ByteArray} {k : Nat} {p : ByteArray} {v : Value} (H : M.Rdr w g t k p v) : M.Cur w g t k := ⟨H.c0, H.c1, H.fr 1⟩
theorem M.Rdr.lt {w : World} {g : Nat} {t : ByteArray} {k : Nat} {p : ByteArray} {v : Value} (H : M.Rdr w g t k p v) : g < w.heap.size := World.block_lt_of_cell? w _ H.c0
theorem M.Rdr.of_block {w w' : World} {g : Nat} {t : ByteArray} {k : Nat} {p : ByteArray} {v : Value} (H : M.Rdr w g t k p v) (h : w'.heap[g]? = w.heap[g]?) : M.Rdr w' g t k p v :=
  ⟨(World.cell?_of_block (a := ⟨g, 0, none⟩) h).trans H.c0, (World.cell?_of_block (a := ⟨g, 1, none⟩) h).trans H.c1, (World.cell?_of_block (a := ⟨g, 2, none⟩) h).trans H.c2, (World.cell?_of_block (a := ⟨g, 3, none⟩) h).trans H.c3,
    fun j => (World.frozen?_of_block (a := ⟨g, j, none⟩) h).trans (H.fr j)⟩
theorem M.Rdr.below {w w' : World} {g : Nat} {t : ByteArray} {k : Nat} {p : ByteArray} {v : Value} (H : M.Rdr w g t k p v) (hb : Below w.heap.size w w') : M.Rdr w' g t k p v := H.of_block (hb.block g H.lt)
/-- What a header, a name and a body tell of a file. -/
def M.noteF (L : List UInt8) (nm body : ByteArray) : M.FileD :=
  { path := if M.kindL L = 53 then M.ba (Lib.trimSuffix nm.data.toList [47]) else nm, dir := decide (M.kindL L = 53), mode := M.octR (M.ba (M.cutL L 100 7)), time := M.octR (M.ba (M.cutL L 136 11)), data := body }
/-- What lies below a reader is as it was. -/
def M.Keeps (g : Nat) (w w' : World) : Prop := ∀ (B : Nat) (a : World), B ≤ g → Below B a w → Below B a w'

theorem M.news5 {w : World} {B : Nat} (hB : w.heap.size = B) (p d m ti b : Value) (T : TypeId) : ∀ j u, [p, d, m, ti, b][j]? = some u → (w.alloc (.cells #[p, d, m, ti, b] T)).cell? ((⟨B, 0, none⟩ : Addr).add j) = some u := by
  intro j u hu
  subst hB
  rw [Addr.add_lit, Nat.zero_add, World.cell?_alloc_mark]
  simpa using hu
theorem M.one5 (p : ByteArray) (d : Bool) (m ti : Int) (b : ByteArray) : ∀ v ∈ [Value.string p, .bool d, .int .i64 m, .int .i64 ti, .string b], v.oneCell' = true := by
  intro v hv
  simp at hv
  rcases hv with rfl | rfl | rfl | rfl | rfl <;> rfl
/-- A reader's cells behind an append to its files. -/
theorem M.far {w W w9 : World} {g base : Nat} {t : ByteArray} {k : Nat} {p : ByteArray} {v : Value} (R : M.Rdr w g t k p v) (hv : ∀ j, v.ownBlock = some j → base ≤ j ∧ j < w.heap.size) (hg : g < base) (hb : Below w.heap.size w W) (h : W.grownBy w9 v.ownBlock) :
    w9.heap[g]? = w.heap[g]? := by
  have h1 := R.lt
  rw [h.block g (Nat.lt_of_lt_of_le h1 hb.size) (fun e => by have := hv g e.symm; omega), hb.block g h1]

/-- Behind the append: the files are stored into the reader. -/
theorem M.note_end {w W w9 : World} {g base : Nat} {t : ByteArray} {k : Nat} {p : ByteArray} {v v' : Value} {fs : List M.FileD} {f : M.FileD} {news : List Value} (R : M.Rdr w g t k p v) (hv : ∀ j, v.ownBlock = some j → base ≤ j ∧ j < w.heap.size) (hg : g < base)
    (hb : Below w.heap.size w W) (h : W.grownBy w9 v.ownBlock) (hown : w9.ownsRow base 54 5 v' (fs.length + 1) (M.cellsF fs ++ news)) (hf : M.fcells f = news) :
    M.Rdr (w9.setCell ⟨g, 3, none⟩ v') g t k p v' ∧ M.Own (w9.setCell ⟨g, 3, none⟩ v') base 54 v' (fs ++ [f]) ∧ M.Keeps g w (w9.setCell ⟨g, 3, none⟩ v') := by
  have hfar := M.far R hv hg hb h
  have R9 := R.of_block hfar
  refine ⟨⟨?_, ?_, ?_, ?_, fun j => ?_⟩, ?_, fun B a hB hba => ?_⟩
  · rw [World.cell?_setCell_other _ _ _ _ (by simp)]; exact R9.c0
  · rw [World.cell?_setCell_other _ _ _ _ (by simp)]; exact R9.c1
  · rw [World.cell?_setCell_other _ _ _ _ (by simp)]; exact R9.c2
  · exact World.cell?_setCell_same _ _ _ R9.c3
  · simp [R9.fr j]
  · subst hf
    exact ownsRow_setCell_below (M.Own.more hown) (a := ⟨g, 3, none⟩) hg v'
  · have h1 := R.lt
    have hbW := hba.trans (hb.mono (by omega))
    exact (hbW.grown h (by have := hb.size; omega) (fun j hj => by have := hv j hj; omega)).setCell hB _

set_option maxRecDepth 100000 in
set_option maxHeartbeats 1600000 in
theorem iNote_any (g base : Nat) (t : ByteArray) (k : Nat) (p nm body : ByteArray) (L : List UInt8) (v : Value) (fs : List M.FileD) (w : World) (R : M.Rdr w g t k p v) (O : M.Own w base 54 v fs)
    (hg : g < base) (hbs : base ≤ w.heap.size) (hL : L.length = 512) (hfl : fs.length ≤ 1000) (hnm : nm.size ≤ 100000) :
    Calls Tryz.prog 123 #[.pointer (some ⟨g, 0, none⟩), .agg (L.map M.u8).toArray, .string nm, .string body] w fun e w' => e = .returned (.tuple #[]) ∧
      ∃ v', M.Rdr w' g t k p v' ∧ M.Own w' base 54 v' (fs ++ [M.noteF L nm body]) ∧ M.Keeps g w w' := by
  obtain ⟨i0, hi, hz0, hz1, hz2⟩ := info_parts Tryz.infoFn
  have hglt := R.lt
  obtain ⟨c0, c1, c2, c3, fr⟩ := R
  have h156 : 156 < L.length := by omega
  have hx : ∀ o, ((w.alloc (.cells (L.map M.u8).toArray 113)).alloc o).cell? ⟨w.heap.size, 156, none⟩ = some (.int .u8 ((L[156]).toNat : Int)) := fun o => by
    have := (M.Arr.row (show M.Arr ((w.alloc (.cells (L.map M.u8).toArray 113)).alloc o) w.heap.size 113 L from heap_alloc2_old w _ _)).cell 156 h156
    exact this
  have hx0 : (w.alloc (.cells (L.map M.u8).toArray 113)).cell? ⟨w.heap.size, 156, none⟩ = some (.int .u8 ((L[156]).toNat : Int)) := (M.Arr.row (M.arr_made w 113 L)).cell 156 h156
  have hkl : M.kindL L = L[156] := by unfold M.kindL; rw [List.getD_eq_getElem?_getD, List.getElem?_eq_getElem h156, Option.getD_some]
  have CF1 : Hid (∀ o, Calls Tryz.prog 114 #[.pointer (some ⟨w.heap.size, 0, none⟩), .int .i64 100, .int .i64 7] ((w.alloc (.cells (L.map M.u8).toArray 113)).alloc o) fun e w' => e = .returned (.string (M.ba (M.cutL L 100 7))) ∧ ((w.alloc (.cells (L.map M.u8).toArray 113)).alloc o) = w') :=
    fun o => iField_any w.heap.size L 100 7 _ hL (by decide) (by decide) (heap_alloc2_old w _ _)
  have CF2 : Hid (∀ o, Calls Tryz.prog 114 #[.pointer (some ⟨w.heap.size, 0, none⟩), .int .i64 136, .int .i64 11] ((w.alloc (.cells (L.map M.u8).toArray 113)).alloc o) fun e w' => e = .returned (.string (M.ba (M.cutL L 136 11))) ∧ ((w.alloc (.cells (L.map M.u8).toArray 113)).alloc o) = w') :=
    fun o => iField_any w.heap.size L 136 11 _ hL (by decide) (by decide) (heap_alloc2_old w _ _)
  have CO1 : Hid (∀ W, Calls Tryz.prog 154 #[.string (M.ba (M.cutL L 100 7))] W fun e w' => e = .returned (.int .i64 (M.octR (M.ba (M.cutL L 100 7)))) ∧ W = w') := fun W => iOctR_any _ W (by rw [M.ba_size]; unfold M.cutL maxLen; rw [List.length_take]; omega)
  have CO2 : Hid (∀ W, Calls Tryz.prog 154 #[.string (M.ba (M.cutL L 136 11))] W fun e w' => e = .returned (.int .i64 (M.octR (M.ba (M.cutL L 136 11)))) ∧ W = w') := fun W => iOctR_any _ W (by rw [M.ba_size]; unfold M.cutL maxLen; rw [List.length_take]; omega)
  have CT : Hid (∀ W, Calls Tryz.prog 121 #[.string nm, .string ⟨#[47]⟩] W fun e w' => e = .returned (.string (M.ba (Lib.trimSuffix nm.data.toList [47]))) ∧ W = w') := fun W => (Tryz.strings_TrimSuffix nm ⟨#[47]⟩ W (by omega)).mono fun e w' h => ⟨h.1, h.2.symm⟩
  obtain ⟨f, hf⟩ : ∃ f, f = M.noteF L nm body := ⟨_, rfl⟩
  rw [← hf]
  have HF : Hid (f = M.noteF L nm body) := hf
  have HO : Hid (M.Own w base 54 v fs) := O
  have HW : Hid (∀ (o1 o2 o3 : Obj), M.Own ((((w.alloc o1).alloc o2).drew).alloc o3) base 54 v fs) := fun o1 o2 o3 => O.below (((((Below.refl _ _).alloc (Nat.le_refl _) _).alloc (by simp) _).drew).alloc (by simp; omega) _)
  have HR : Hid (M.Rdr w g t k p v) := ⟨c0, c1, c2, c3, fr⟩
  have HVB : Hid (∀ j, v.ownBlock = some j → base ≤ j ∧ j < w.heap.size) := fun j hj => World.ownsRow.lt O j hj
  obtain ⟨mo, hmo⟩ : ∃ mo, mo = M.octR (M.ba (M.cutL L 100 7)) := ⟨_, rfl⟩
  obtain ⟨ti, hti⟩ : ∃ ti, ti = M.octR (M.ba (M.cutL L 136 11)) := ⟨_, rfl⟩
  rw [← hmo] at CO1
  rw [← hti] at CO2
  have r3 : ∀ o1 o2 o3, (((w.alloc o1).alloc o2).alloc o3).cell? ⟨g, 3, none⟩ = some v := fun o1 o2 o3 => (HR.out.below ((((Below.refl _ _).alloc (Nat.le_refl _) _).alloc (by simp) _).alloc (by simp; omega) _)).c3
  have HMT : Hid (mo = M.octR (M.ba (M.cutL L 100 7)) ∧ ti = M.octR (M.ba (M.cutL L 136 11))) := ⟨hmo, hti⟩
  clear hmo hti
  go_enter Tryz.func123, Tryz.ntmps123
  cases hk : (((L[156]).toNat : Int) == 53)
  · have hk53 : ¬ L[156] = 53 := fun e => by rw [e] at hk; exact absurd hk (by decide)
    have HFC : Hid (M.fcells f = [.string nm, .bool false, .int .i64 mo, .int .i64 ti, .string body]) := by
      show _ = _
      rw [HF.out]
      unfold M.noteF M.fcells
      rw [hkl]
      rw [if_neg hk53, decide_eq_false hk53, HMT.out.1, HMT.out.2]
    go_wp2_with fail
    refine (CF1.out _).mono ?_
    rintro e w1 ⟨rfl, rfl⟩
    go_wp2_with fail
    refine (CO1.out _).mono ?_
    rintro e w1 ⟨rfl, rfl⟩
    go_wp2_with fail
    refine (CF2.out _).mono ?_
    rintro e w1 ⟨rfl, rfl⟩
    go_wp2_with fail
    refine (CO2.out _).mono ?_
    rintro e w1 ⟨rfl, rfl⟩
    clear hx hx0 CF1 CF2 CO1 CO2 CT
    go_wp2_with fail
    go_region_law (refine step_append_lies _ rfl (.tmp 30) (.tmp 32) 27 rfl base 54 i0 (.agg #[.string ⟨#[]⟩, .bool false, .int .i64 0, .int .i64 0, .string ⟨#[]⟩]) 5 56 Tryz.underlying27 hi hz0 hz1 hz2 rfl (by decide) v fs.length (M.cellsF fs) (by simp [Act.eval]) (HW.out _ _ _) ⟨w.heap.size + 1 + 1, 0, none⟩ 1 1 [.string nm, .bool false, .int .i64 mo, .int .i64 ti, .string body] (by simp [Act.eval]) rfl (M.news5 (by simp) _ _ _ _ _ _) (M.one5 _ _ _ _ _) (by decide) (by unfold maxLen; omega) (by omega) (by simp; omega) (w.heap.size + 1 + 1 + 1) (by simp) ?_; intro g' cap' w9 hown hgrow hat hlt; have hfar := M.far HR.out HVB.out hg (((((Below.refl _ _).alloc (Nat.le_refl _) _).alloc (by simp) _).drew).alloc (by simp; omega) _) hgrow; have q3 := (HR.out.of_block hfar).c3; have qf := (HR.out.of_block hfar).fr 3; clear hfar)
    all_goals
      obtain ⟨h1, h2, h3⟩ := M.note_end HR.out HVB.out hg (((((Below.refl _ _).alloc (Nat.le_refl _) _).alloc (by simp) _).drew).alloc (by simp; omega) _) hgrow hown HFC.out
      exact bodyPost_end (v := .tuple #[]) (by simp [results, Tryz.results123]) rfl ⟨rfl, _, h1, h2, h3⟩
  · have hk53 : L[156] = 53 := UInt8.toNat_inj.1 (by have := beq_iff_eq.1 hk; show _ = 53; omega)
    obtain ⟨q, hq⟩ : ∃ q, q = M.ba (Lib.trimSuffix nm.data.toList [47]) := ⟨_, rfl⟩
    rw [← hq] at CT
    have HFC : Hid (M.fcells f = [.string q, .bool true, .int .i64 mo, .int .i64 ti, .string body]) := by
      show _ = _
      rw [HF.out]
      unfold M.noteF M.fcells
      rw [hkl]
      rw [if_pos hk53, decide_eq_true hk53, ← hq, HMT.out.1, HMT.out.2]
    clear hq
    go_wp2_with fail
    refine (CT.out _).mono ?_
    rintro e w1 ⟨rfl, rfl⟩
    go_wp2_with fail
    refine (CF1.out _).mono ?_
    rintro e w1 ⟨rfl, rfl⟩
    go_wp2_with fail
    refine (CO1.out _).mono ?_
    rintro e w1 ⟨rfl, rfl⟩
    go_wp2_with fail
    refine (CF2.out _).mono ?_
    rintro e w1 ⟨rfl, rfl⟩
    go_wp2_with fail
    refine (CO2.out _).mono ?_
    rintro e w1 ⟨rfl, rfl⟩
    clear hx hx0 CF1 CF2 CO1 CO2 CT
    go_wp2_with fail
    go_region_law (refine step_append_lies _ rfl (.tmp 30) (.tmp 32) 27 rfl base 54 i0 (.agg #[.string ⟨#[]⟩, .bool false, .int .i64 0, .int .i64 0, .string ⟨#[]⟩]) 5 56 Tryz.underlying27 hi hz0 hz1 hz2 rfl (by decide) v fs.length (M.cellsF fs) (by simp [Act.eval]) (HW.out _ _ _) ⟨w.heap.size + 1 + 1, 0, none⟩ 1 1 [.string q, .bool true, .int .i64 mo, .int .i64 ti, .string body] (by simp [Act.eval]) rfl (M.news5 (by simp) _ _ _ _ _ _) (M.one5 _ _ _ _ _) (by decide) (by unfold maxLen; omega) (by omega) (by simp; omega) (w.heap.size + 1 + 1 + 1) (by simp) ?_; intro g' cap' w9 hown hgrow hat hlt; have hfar := M.far HR.out HVB.out hg (((((Below.refl _ _).alloc (Nat.le_refl _) _).alloc (by simp) _).drew).alloc (by simp; omega) _) hgrow; have q3 := (HR.out.of_block hfar).c3; have qf := (HR.out.of_block hfar).fr 3; clear hfar)
    all_goals
      obtain ⟨h1, h2, h3⟩ := M.note_end HR.out HVB.out hg (((((Below.refl _ _).alloc (Nat.le_refl _) _).alloc (by simp) _).drew).alloc (by simp; omega) _) hgrow hown HFC.out
      exact bodyPost_end (v := .tuple #[]) (by simp [results, Tryz.results123]) rfl ⟨rfl, _, h1, h2, h3⟩
end Go.Proofs.YtephjmlcbpfnaaaGreatDoor

/-
  What the program's methods of a cursor do: left, here, skip.
-/
namespace Go.Proofs.YtephjmlcbpfnaaaGreatDoor
open Go.RowKit

set_option maxRecDepth 100000 in
set_option maxHeartbeats 400000 in
theorem iLeft_any (g : Nat) (t : ByteArray) (k : Nat) (w : World) (H : M.Cur w g t k) (ht : t.size ≤ 100000) (hk : k * 512 ≤ 100000) :
    Calls Tryz.prog 111 #[.pointer (some ⟨g, 0, none⟩)] w fun e w' => e = .returned (.int .i64 ((t.size : Int) - (k : Int) * 512)) ∧ ∃ n, w' = w.drewN n := by
  obtain ⟨c0, c1, _⟩ := H
  go_enter Tryz.func111, Tryz.ntmps111
  go_wp2
  go_quiet (fail)
  go_wp2
  go_ret
  exact ⟨rfl, _, rfl⟩

set_option maxRecDepth 100000 in
set_option maxHeartbeats 400000 in
theorem iHere_any (g : Nat) (t : ByteArray) (k n : Nat) (w : World) (H : M.Cur w g t k) (ht : t.size ≤ 100000) (hk : k * 512 + n ≤ t.size) :
    Calls Tryz.prog 113 #[.pointer (some ⟨g, 0, none⟩), .int .i64 n] w fun e w' => e = .returned (.string (t.extract (k * 512) (k * 512 + n))) ∧ Below w.heap.size w w' := by
  have HP : Hid (Calls Tryz.prog 110 #[.string t, .int .i64 (k * 512 : Nat), .int .i64 (k * 512 + n : Nat)] w fun e w' => e = .returned (.string (t.extract (k * 512) (k * 512 + n))) ∧ Below w.heap.size w w') := pieceOf_any t (k * 512) (k * 512 + n) w (by omega) (by omega) hk
  obtain ⟨c0, c1, _⟩ := H
  have e1 : (k : Int) * 512 = ((k * 512 : Nat) : Int) := by omega
  generalize hx : t.extract (k * 512) (k * 512 + n) = x at HP ⊢
  obtain ⟨q, hq⟩ : ∃ q, q = k * 512 := ⟨_, rfl⟩
  rw [← hq] at HP e1 hk
  have HP2 : Hid (Calls Tryz.prog 110 #[.string t, .int .i64 (q : Int), .int .i64 ((q : Int) + (n : Int))] w fun e w' => e = .returned (.string x) ∧ Below w.heap.size w w') := by
    have := HP.out
    rwa [show ((q + n : Nat) : Int) = (q : Int) + (n : Int) by omega] at this
  clear hx hq HP
  go_enter Tryz.func113, Tryz.ntmps113
  go_wp2_with fail
  refine HP2.out.mono ?_
  rintro e w1 ⟨rfl, hb⟩
  have HB : Hid (Below w.heap.size w w1) := hb
  clear hb
  go_wp2
  go_ret
  exact ⟨rfl, HB.out⟩

set_option maxRecDepth 100000 in
set_option maxHeartbeats 600000 in
theorem iSkip_any (g : Nat) (t : ByteArray) (k n : Nat) (w : World) (H : M.Cur w g t k) (hn : n ≤ 100000000000) (hk : k ≤ 100000) :
    Calls Tryz.prog 119 #[.pointer (some ⟨g, 0, none⟩), .int .i64 n] w fun e w' => e = .returned (.tuple #[]) ∧ ∃ d, w' = (w.setCell ⟨g, 1, none⟩ (.int .i64 ((k + (n + 511) / 512 : Nat) : Int))).drewN d := by
  have HB : Hid (∀ W, Calls Tryz.prog 117 #[.int .i64 n] W fun e w' => e = .returned (.int .i64 ((n + 511) / 512 : Nat)) ∧ W = w') := fun W => iBlocks_any n W hn
  obtain ⟨c0, c1, f1⟩ := H
  obtain ⟨q, hq⟩ : ∃ q, q = (n + 511) / 512 := ⟨_, rfl⟩
  rw [← hq] at HB ⊢
  have hq9 : q ≤ 1000000000 := by rw [hq]; omega
  clear hq
  go_enter Tryz.func119, Tryz.ntmps119
  go_wp2_with fail
  go_region_with (go_at_call 117; refine (HB.out _).mono ?_; rintro e w' ⟨rfl, rfl⟩)
  all_goals
    have hwr : IntKind.i64.wrap ((k : Int) + (q : Int)) = ((k + q : Nat) : Int) := by rw [IntKind.wrap_i64]; omega
    rw [hwr]
    exact bodyPost_end (v := .tuple #[]) (by simp [results, Tryz.results119]) rfl ⟨rfl, 1, rfl⟩
end Go.Proofs.YtephjmlcbpfnaaaGreatDoor

/-
  What pass of the program does: a header and what follows it are noted, and the reader stands behind them.
-/
namespace Go.Proofs.YtephjmlcbpfnaaaGreatDoor
open Go.RowKit

theorem M.trim_strip (l : List UInt8) : Lib.trimSuffix l [47] = M.stripL l := by
  unfold Lib.trimSuffix Lib.hasSuffix M.stripL
  rcases List.eq_nil_or_concat l with rfl | ⟨m, c, rfl⟩
  · rfl
  · rw [List.concat_eq_append]
    by_cases hc : c = 47
    · subst hc
      simp
    · have h1 : ¬ (m ++ [c]).getLast? = some 47 := by simp [hc]
      rw [if_neg h1, if_neg (by simp; intro e; exact absurd e.symm hc)]
theorem M.note_file {L : List UInt8} {nm body p : ByteArray} (h : nm.data.toList = if p.data.toList = [] then M.textL (M.cutL L 0 100) else p.data.toList) : M.noteF L nm body = M.fileL L body.data.toList p.data.toList := by
  unfold M.noteF M.fileL
  rw [← h, M.trim_strip]
  have e1 : body = M.ba body.data.toList := M.ba_toL body
  have e2 : nm = M.ba nm.data.toList := M.ba_toL nm
  by_cases hk : M.kindL L = 53
  · rw [if_pos hk, if_pos hk, ← e1]
  · rw [if_neg hk, if_neg hk, ← e1, ← e2]
theorem M.cut_len (s k : List UInt8) : (Lib.cut s k).2.1.length ≤ s.length := by
  unfold Lib.cut
  split
  · simp only [List.length_drop]; omega
  · exact Nat.zero_le _
theorem M.ml_keeps {w w' : World} {g : Nat} (h : M.ml w) (hg : 0 < g) (hk : M.Keeps g w w') : M.ml w' := by
  obtain ⟨m, hm⟩ := h
  have hb := hk g w (Nat.le_refl _) (Below.refl _ _)
  exact ⟨m, by rw [hb.cell (p := ⟨0, 0, none⟩) hg]; exact hm⟩
theorem M.Keeps.refl (g : Nat) (w : World) : M.Keeps g w w := fun _ _ _ h => h
theorem M.Keeps.trans {g : Nat} {a b c : World} (h : M.Keeps g a b) (h' : M.Keeps g b c) : M.Keeps g a c := fun B x hB hx => h' B x hB (h B x hB hx)
theorem M.Keeps.below {g : Nat} {a b : World} (hg : g ≤ a.heap.size) (h : Below a.heap.size a b) : M.Keeps g a b := fun _ _ hB hx => hx.trans (h.mono (Nat.le_trans hB hg))
theorem M.Keeps.drewN {g : Nat} (a : World) (n : Nat) : M.Keeps g a (a.drewN n) := fun _ _ _ hx => below_drewN hx n
theorem M.Keeps.set {g : Nat} (a : World) (j : Nat) (v : Value) : M.Keeps g a (a.setCell ⟨g, j, none⟩ v) := fun _ _ hB hx => hx.setCell hB v
theorem M.Keeps.size {g : Nat} {a b : World} (h : M.Keeps g a b) : a.heap.size ≤ b.heap.size := (h 0 a (Nat.zero_le _) (Below.refl _ _)).size

/-- All that is known of a reader's world. -/
structure M.Rw (w : World) (g base : Nat) (t : ByteArray) (k : Nat) (p : ByteArray) (v : Value) (fs : List M.FileD) (b : Nat) (L : List UInt8) : Prop where
  rdr : M.Rdr w g t k p v
  own : M.Own w base 54 v fs
  arr : M.Arr w b 113 L
theorem M.set_far {w : World} {g b j : Nat} {v : Value} (h : g ≠ b) : (w.setCell ⟨g, j, none⟩ v).heap[b]? = w.heap[b]? := by
  simp only [World.setCell, Array.getElem?_modify]
  rw [if_neg h]
namespace M.Rw
variable {w : World} {g base : Nat} {t : ByteArray} {k : Nat} {p : ByteArray} {v : Value} {fs : List M.FileD} {b : Nat} {L : List UInt8}
theorem below {w' : World} (H : M.Rw w g base t k p v fs b L) (hb : Below w.heap.size w w') : M.Rw w' g base t k p v fs b L := ⟨H.rdr.below hb, H.own.below hb, H.arr.below hb H.arr.lt⟩
theorem drewN (H : M.Rw w g base t k p v fs b L) (n : Nat) : M.Rw (w.drewN n) g base t k p v fs b L := H.below (below_drewN (Below.refl _ _) n)
theorem place (H : M.Rw w g base t k p v fs b L) (hg : g < base) (hb : g ≠ b) (k' : Nat) : M.Rw (w.setCell ⟨g, 1, none⟩ (.int .i64 k')) g base t k' p v fs b L := by
  obtain ⟨⟨c0, c1, c2, c3, fr⟩, O, A⟩ := H
  refine ⟨⟨?_, ?_, ?_, ?_, fun j => ?_⟩, ownsRow_setCell_below O (a := ⟨g, 1, none⟩) hg _, ?_⟩
  · rw [World.cell?_setCell_other _ _ _ _ (by simp)]; exact c0
  · exact World.cell?_setCell_same _ _ _ c1
  · rw [World.cell?_setCell_other _ _ _ _ (by simp)]; exact c2
  · rw [World.cell?_setCell_other _ _ _ _ (by simp)]; exact c3
  · simp [fr j]
  · unfold M.Arr; rw [M.set_far hb]; exact A
theorem long (H : M.Rw w g base t k p v fs b L) (hg : g < base) (hb : g ≠ b) (p' : ByteArray) : M.Rw (w.setCell ⟨g, 2, none⟩ (.string p')) g base t k p' v fs b L := by
  obtain ⟨⟨c0, c1, c2, c3, fr⟩, O, A⟩ := H
  refine ⟨⟨?_, ?_, ?_, ?_, fun j => ?_⟩, ownsRow_setCell_below O (a := ⟨g, 2, none⟩) hg _, ?_⟩
  · rw [World.cell?_setCell_other _ _ _ _ (by simp)]; exact c0
  · rw [World.cell?_setCell_other _ _ _ _ (by simp)]; exact c1
  · exact World.cell?_setCell_same _ _ _ c2
  · rw [World.cell?_setCell_other _ _ _ _ (by simp)]; exact c3
  · simp [fr j]
  · unfold M.Arr; rw [M.set_far hb]; exact A
end M.Rw

set_option maxRecDepth 100000 in
set_option maxHeartbeats 1600000 in
theorem iPass_any (g base : Nat) (t : ByteArray) (k n : Nat) (p : ByteArray) (L : List UInt8) (v : Value) (fs : List M.FileD) (w : World) (R : M.Rdr w g t k p v) (O : M.Own w base 54 v fs)
    (hgm : 0 < g) (hg : g < base) (hbs : base ≤ w.heap.size) (hL : L.length = 512) (hfl : fs.length ≤ 1000) (hp : p.size ≤ 20000) (ht : t.size ≤ 20000) (hn : M.sizeL L = (n : Int)) (hk : (k + 1) * 512 + n ≤ t.size) (hm : M.ml w) :
    Calls Tryz.prog 84 #[.pointer (some ⟨g, 0, none⟩), .agg (L.map M.u8).toArray] w fun e w' => e = .returned (.tuple #[]) ∧
      ∃ p' v', p'.data.toList = (M.stepL M.recI L (M.cutL t.data.toList ((k + 1) * 512) n) ⟨p.data.toList, fs⟩).path ∧ M.Rdr w' g t (k + 1 + (n + 511) / 512) p' v' ∧ M.Own w' base 54 v' (M.stepL M.recI L (M.cutL t.data.toList ((k + 1) * 512) n) ⟨p.data.toList, fs⟩).out ∧ M.Keeps g w w' := by
  obtain ⟨body, hbody⟩ : ∃ body, body = t.extract ((k + 1) * 512) ((k + 1) * 512 + n) := ⟨_, rfl⟩
  have hbs' : body.size = n := by rw [hbody, ByteArray.size_extract]; omega
  have hcut : M.cutL t.data.toList ((k + 1) * 512) n = body.data.toList := by
    rw [hbody, M.cut_mk t ((k + 1) * 512) ((k + 1) * 512 + n), show (k + 1) * 512 + n - (k + 1) * 512 = n by omega]; rfl
  rw [hcut]
  have hglt := R.lt
  have h156 : 156 < L.length := by omega
  have hkl : M.kindL L = L[156] := by unfold M.kindL; rw [List.getD_eq_getElem?_getD, List.getElem?_eq_getElem h156, Option.getD_some]
  have HRw : Hid (M.Rw (w.alloc (.cells (L.map M.u8).toArray 113)) g base t k p v fs w.heap.size L) := ⟨R.below ((Below.refl _ _).alloc (Nat.le_refl _) _), O.below ((Below.refl _ _).alloc (Nat.le_refl _) _), M.arr_made w _ L⟩
  have HK0 : Hid (M.Keeps g w (w.alloc (.cells (L.map M.u8).toArray 113))) := M.Keeps.below (by omega) ((Below.refl _ _).alloc (Nat.le_refl _) _)
  have hgb : g ≠ w.heap.size := by omega
  have HGB : Hid (g ≠ w.heap.size) := hgb
  have HM := M.hidp hm
  have CK : Hid (∀ W, M.Cur W g t k → Calls Tryz.prog 119 #[.pointer (some ⟨g, 0, none⟩), .int .i64 512] W fun e w' => e = .returned (.tuple #[]) ∧ ∃ d, w' = (W.setCell ⟨g, 1, none⟩ (.int .i64 ((k + 1 : Nat) : Int))).drewN d) := fun W hW => iSkip_any g t k 512 W hW (by omega) (by omega)
  have CS : Hid (∀ W, M.Arr W w.heap.size 113 L → Calls Tryz.prog 116 #[.pointer (some ⟨w.heap.size, 0, none⟩)] W fun e w' => e = .returned (.int .i64 n) ∧ W = w') := fun W hW => by rw [← hn]; exact iHSize_any _ L W hL hW
  have CH : Hid (∀ W, M.Cur W g t (k + 1) → Calls Tryz.prog 113 #[.pointer (some ⟨g, 0, none⟩), .int .i64 n] W fun e w' => e = .returned (.string body) ∧ Below W.heap.size W w') := fun W hW => by rw [hbody]; exact iHere_any g t (k + 1) n W hW (by omega) hk
  have CK2 : Hid (∀ W, M.Cur W g t (k + 1) → Calls Tryz.prog 119 #[.pointer (some ⟨g, 0, none⟩), .int .i64 n] W fun e w' => e = .returned (.tuple #[]) ∧ ∃ d, w' = (W.setCell ⟨g, 1, none⟩ (.int .i64 ((k + 1 + (n + 511) / 512 : Nat) : Int))).drewN d) := fun W hW => iSkip_any g t (k + 1) n W hW (by omega) (by omega)
  obtain ⟨q, hq⟩ : ∃ q, q = k + 1 + (n + 511) / 512 := ⟨_, rfl⟩
  rw [← hq] at CK2 ⊢
  have HBD : Hid (body.size ≤ 20000) := by show _ ≤ _; omega
  clear hbody hcut hq R O hm hgb hn
  go_enter Tryz.func84, Tryz.ntmps84
  go_wp2_with fail
  refine (CK.out _ HRw.out.rdr.cur).mono ?_
  rintro e w1 ⟨rfl, d1, rfl⟩
  have R1 : Hid (M.Rw (((w.alloc (.cells (L.map M.u8).toArray 113)).setCell ⟨g, 1, none⟩ (.int .i64 ((k + 1 : Nat) : Int))).drewN d1) g base t (k + 1) p v fs w.heap.size L) := (HRw.out.place hg HGB.out (k + 1)).drewN d1
  have K1 : Hid (M.Keeps g w (((w.alloc (.cells (L.map M.u8).toArray 113)).setCell ⟨g, 1, none⟩ (.int .i64 ((k + 1 : Nat) : Int))).drewN d1)) := (HK0.out.trans (M.Keeps.set _ 1 _)).trans (M.Keeps.drewN _ d1)
  clear HRw HK0 CK
  generalize ((w.alloc (.cells (L.map M.u8).toArray 113)).setCell ⟨g, 1, none⟩ (.int .i64 ((k + 1 : Nat) : Int))).drewN d1 = w1 at R1 K1 ⊢
  go_wp2_with fail
  have R1d : Hid (M.Rw w1.drew g base t (k + 1) p v fs w.heap.size L) := R1.out.below (Below.refl _ _).drew
  go_region_with (first | (go_at_call 116; refine (CS.out _ R1d.out.arr).mono ?_; rintro e w2 ⟨rfl, rfl⟩) | (go_at_call 113; refine (CH.out _ R1d.out.rdr.cur).mono ?_; rintro e w2 ⟨rfl, hb2⟩))
  have R2 : Hid (M.Rw w2 g base t (k + 1) p v fs w.heap.size L) := R1d.out.below hb2
  have hgw : g ≤ w1.drew.heap.size := Nat.le_of_lt R1d.out.rdr.lt
  have K2 : Hid (M.Keeps g w w2) := (K1.out.trans (M.Keeps.drewN _ 1)).trans (M.Keeps.below hgw hb2)
  clear hb2 hgw R1 R1d K1 CH
  go_wp2_with fail
  have R2d : Hid (M.Rw w2.drew g base t (k + 1) p v fs w.heap.size L) := R2.out.below (Below.refl _ _).drew
  go_region_with (first | (go_at_call 116; refine (CS.out _ R2d.out.arr).mono ?_; rintro e w3 ⟨rfl, rfl⟩) | (go_at_call 119; refine (CK2.out _ R2d.out.rdr.cur).mono ?_; rintro e w3 ⟨rfl, d3, rfl⟩))
  have R3 : Hid (M.Rw ((w2.setCell ⟨g, 1, none⟩ (.int .i64 (q : Int))).drewN (1 + d3)) g base t q p v fs w.heap.size L) := (R2.out.place hg HGB.out q).drewN (1 + d3)
  have K3 : Hid (M.Keeps g w ((w2.setCell ⟨g, 1, none⟩ (.int .i64 (q : Int))).drewN (1 + d3))) := (K2.out.trans (M.Keeps.set _ 1 _)).trans (M.Keeps.drewN _ (1 + d3))
  clear R2 R2d K2 CK2 CS
  generalize (w2.setCell ⟨g, 1, none⟩ (.int .i64 (q : Int))).drewN (1 + d3) = w3 at R3 K3 ⊢
  have M3 : Hid (M.ml w3) := M.ml_keeps HM.out hgm K3.out
  have x156 : w3.cell? ⟨w.heap.size, 156, none⟩ = some (.int .u8 ((L[156]).toNat : Int)) := R3.out.arr.row.cell 156 h156
  cases hk120 : (((L[156]).toNat : Int) == 120)
  case true =>
    have hkk : L[156] = 120 := UInt8.toNat_inj.1 (by have := beq_iff_eq.1 hk120; show _ = 120; omega)
    obtain ⟨mm, hmm⟩ := M3.out
    have hC := Tryz.strings_Cut body ⟨#[32, 112, 97, 116, 104, 61]⟩ mm w3 (by have := HBD.out; omega) hmm
    rw [show ((⟨#[32, 112, 97, 116, 104, 61]⟩ : ByteArray)).data.toList = M.keyL from rfl] at hC
    obtain ⟨nm, hnm⟩ : ∃ nm : ByteArray, nm = ⟨(Lib.cut body.data.toList M.keyL).2.1.toArray⟩ := ⟨_, rfl⟩
    rw [← hnm] at hC
    have hnl : nm.data.toList = (Lib.cut body.data.toList M.keyL).2.1 := by rw [hnm]
    obtain ⟨p', hp'⟩ : ∃ p', p' = M.ba (M.recI body.data.toList) := ⟨_, rfl⟩
    have HPE : Hid (p'.data.toList = (M.stepL M.recI L body.data.toList ⟨p.data.toList, fs⟩).path ∧ fs = (M.stepL M.recI L body.data.toList ⟨p.data.toList, fs⟩).out) := by
      show _ ∧ _
      unfold M.stepL
      rw [hkl, if_pos hkk, hp']
      exact ⟨M.ba_list _, rfl⟩
    have CC : Hid (Calls Tryz.prog 120 #[.string body, .string ⟨#[32, 112, 97, 116, 104, 61]⟩] w3 fun e w' => ∃ y z, e = .returned (.tuple #[.string y, .string nm, .bool z]) ∧ ∃ n, w' = w3.drewN n) := hC.mono fun e w' h => ⟨_, _, h.1, h.2⟩
    have hns : nm.size ≤ 9223372036854775807 := by
      rw [Lib.size_eq, hnl]
      have : (Lib.cut body.data.toList M.keyL).2.1.length ≤ body.data.toList.length := M.cut_len _ _
      have h2 := HBD.out
      rw [Lib.size_eq] at h2
      omega
    have CT : Hid (∀ W, Calls Tryz.prog 121 #[.string nm, .string ⟨#[10]⟩] W fun e w' => e = .returned (.string p') ∧ W = w') := fun W => (Tryz.strings_TrimSuffix nm ⟨#[10]⟩ W hns).mono fun e w' h => ⟨by rw [h.1, hp']; unfold M.recI; rw [hnl]; rfl, h.2.symm⟩
    clear hC hnm hnl hp' hmm hns hkk
    go_wp2_with fail
    refine CC.out.mono ?_
    rintro e w4 ⟨y, z, rfl, n4, rfl⟩
    have R4 : Hid (M.Rw (w3.drewN n4) g base t q p v fs w.heap.size L) := R3.out.drewN n4
    have K4 : Hid (M.Keeps g w (w3.drewN n4)) := K3.out.trans (M.Keeps.drewN _ n4)
    clear R3 K3 x156 CC
    generalize w3.drewN n4 = w4 at R4 K4 ⊢
    go_wp2_with fail
    refine (CT.out _).mono ?_
    rintro e w5 ⟨rfl, rfl⟩
    have c2 := R4.out.rdr.c2
    have f2 := R4.out.rdr.fr 2
    have R5 := M.hidp (R4.out.long hg HGB.out p')
    have K5 := M.hidp (K4.out.trans (M.Keeps.set (g := g) w4 2 (.string p')))
    go_wp2
    exact bodyPost_ret (v := .tuple #[]) (by simp [results, Tryz.results84]) rfl ⟨rfl, p', v, HPE.out.1, R5.out.rdr, by rw [← HPE.out.2]; exact R5.out.own, K5.out⟩
  case false =>
    have hkk : ¬ L[156] = 120 := fun e => by rw [e] at hk120; exact absurd hk120 (by decide)
    have HI : Hid ((Tryz.prog.info? 113).map (·.size) = some 512) := (zero_of_info Tryz.infoH).2
    have HLN := M.hidp hL
    obtain ⟨tx, htx⟩ : ∃ tx, tx = M.ba (M.textL (M.cutL L 0 100)) := ⟨_, rfl⟩
    have htl : tx.data.toList = M.textL (M.cutL L 0 100) := by rw [htx]; rfl
    have htz : tx.size ≤ 100 := by
      rw [Lib.size_eq, htl]
      refine Nat.le_trans (List.takeWhile_prefix _).length_le ?_
      unfold M.cutL
      rw [List.length_take]; omega
    have CN : Hid (Calls Tryz.prog 122 #[.pointer (some ⟨w.heap.size, 0, none⟩)] w3 fun e w' => e = .returned (.string tx) ∧ ∃ n, w' = w3.drewN n) := by rw [htx]; exact iHName_any _ L w3 hL R3.out.arr M3.out
    have HST : Hid (∀ f, M.stepL M.recI L body.data.toList ⟨p.data.toList, fs⟩ = f → f = ⟨[], fs ++ [M.fileL L body.data.toList p.data.toList]⟩) := fun f hf => by
      rw [← hf]; unfold M.stepL; rw [hkl, if_neg hkk]
    have HTL := M.hidp htl
    clear htx htl hkk
    go_wp2_with fail
    refine CN.out.mono ?_
    rintro e w4 ⟨rfl, n4, rfl⟩
    have R4 : Hid (M.Rw (w3.drewN n4) g base t q p v fs w.heap.size L) := R3.out.drewN n4
    have K4 : Hid (M.Keeps g w (w3.drewN n4)) := K3.out.trans (M.Keeps.drewN _ n4)
    clear R3 K3 x156 CN
    generalize w3.drewN n4 = w4 at R4 K4 ⊢
    have c2 := R4.out.rdr.c2
    have f2 := R4.out.rdr.fr 2
    by_cases hpe : p.data.toList = []
    · have HNF : Hid (M.noteF L tx body = M.fileL L body.data.toList p.data.toList) := M.note_file (by rw [if_pos hpe]; exact HTL.out)
      have HPE := M.hidp hpe
      have e1 : p.toList.isEmpty = true := by rw [ByteArray.toList_eq, hpe]; rfl
      have e2 : (p.toList == []) = true := by rw [ByteArray.toList_eq, hpe]; rfl
      have CNt : Hid (Calls Tryz.prog 123 #[.pointer (some ⟨g, 0, none⟩), .agg (L.map M.u8).toArray, .string tx, .string body] w4 fun e w' => e = .returned (.tuple #[]) ∧
          ∃ v', M.Rdr w' g t q p v' ∧ M.Own w' base 54 v' (fs ++ [M.noteF L tx body]) ∧ M.Keeps g w4 w') := iNote_any g base t q p tx body L v fs w4 R4.out.rdr R4.out.own hg (Nat.le_trans hbs K4.out.size) hL hfl (by omega)
      have LR := M.hidp R4.out.arr
      clear hpe
      go_wp2_with (refine wpList_load_row rfl 113 _ rfl w.heap.size rfl _ _ _ _ LR.out Tryz.underlying113 rfl (by rw [HI.out]; simp [HLN.out]) ?_)
      refine CNt.out.mono ?_
      rintro e w9 ⟨rfl, v', r9, o9, k9⟩
      have H9 : Hid (M.Rdr w9 g t q p v' ∧ M.Own w9 base 54 v' (fs ++ [M.noteF L tx body]) ∧ M.Keeps g w w9) := ⟨r9, o9, K4.out.trans k9⟩
      clear r9 o9 k9
      go_wp2
      exact bodyPost_end (v := .tuple #[]) (by simp [results, Tryz.results84]) rfl ⟨rfl, p, v', by rw [HST.out _ rfl]; exact HPE.out, H9.out.1, by rw [HST.out _ rfl, ← HNF.out]; exact H9.out.2.1, H9.out.2.2⟩
    · have HNF : Hid (M.noteF L p body = M.fileL L body.data.toList p.data.toList) := M.note_file (by rw [if_neg hpe])
      have e1 : p.toList.isEmpty = false := by rw [ByteArray.toList_eq]; cases h : p.data.toList with
        | nil => exact absurd h hpe
        | cons _ _ => rfl
      have e2 : (p.toList == []) = false := by rw [ByteArray.toList_eq, beq_eq_false_iff_ne]; exact hpe
      have R5 : Hid (M.Rw (w4.setCell ⟨g, 2, none⟩ (.string ⟨#[]⟩)) g base t q ⟨#[]⟩ v fs w.heap.size L) := R4.out.long hg HGB.out _
      have K5 : Hid (M.Keeps g w (w4.setCell ⟨g, 2, none⟩ (.string ⟨#[]⟩))) := K4.out.trans (M.Keeps.set w4 2 _)
      have CNt : Hid (Calls Tryz.prog 123 #[.pointer (some ⟨g, 0, none⟩), .agg (L.map M.u8).toArray, .string p, .string body] (w4.setCell ⟨g, 2, none⟩ (.string ⟨#[]⟩)) fun e w' => e = .returned (.tuple #[]) ∧
          ∃ v', M.Rdr w' g t q ⟨#[]⟩ v' ∧ M.Own w' base 54 v' (fs ++ [M.noteF L p body]) ∧ M.Keeps g (w4.setCell ⟨g, 2, none⟩ (.string ⟨#[]⟩)) w') := iNote_any g base t q _ p body L v fs _ R5.out.rdr R5.out.own hg (Nat.le_trans hbs K5.out.size) hL hfl (by omega)
      have LR := M.hidp R5.out.arr
      clear hpe
      go_wp2_with (refine wpList_load_row rfl 113 _ rfl w.heap.size rfl _ _ _ _ LR.out Tryz.underlying113 rfl (by rw [HI.out]; simp [HLN.out]) ?_)
      refine CNt.out.mono ?_
      rintro e w9 ⟨rfl, v', r9, o9, k9⟩
      have H9 : Hid (M.Rdr w9 g t q ⟨#[]⟩ v' ∧ M.Own w9 base 54 v' (fs ++ [M.noteF L p body]) ∧ M.Keeps g w w9) := ⟨r9, o9, K5.out.trans k9⟩
      clear r9 o9 k9
      go_wp2
      exact bodyPost_end (v := .tuple #[]) (by simp [results, Tryz.results84]) rfl ⟨rfl, ⟨#[]⟩, v', by rw [HST.out _ rfl], H9.out.1, by rw [HST.out _ rfl, ← HNF.out]; exact H9.out.2.1, H9.out.2.2⟩
end Go.Proofs.YtephjmlcbpfnaaaGreatDoor
