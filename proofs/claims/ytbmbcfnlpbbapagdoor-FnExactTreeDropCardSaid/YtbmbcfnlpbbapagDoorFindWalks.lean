/-
  What TreeFind of the specification and of the program do: both tell the file of a path in a right tree, or the zero one.
-/
import Derived.Test.YtbmbcfnlpbbapagDoorITreeWalk
import Derived.WalkKit
import Derived.WalkSpells
import Derived.WalkLawsBesides
import Derived.Maps.Own
import Derived.Maps.OwnOps
namespace Go.Proofs.YtbmbcfnlpbbapagDoor
open Go.RowKit Go.Maps

/-- What is to be found. -/
def M.FindR (fs : List M.FileD) (p : ByteArray) (f : M.FileD) : Prop := (M.TreeR fs → M.Found fs p f) ∧ (¬ M.TreeR fs → f = M.zeroF)
theorem M.FindR.unique {fs : List M.FileD} {p : ByteArray} {f g : M.FileD} (h : M.FindR fs p f) (h' : M.FindR fs p g) : f = g := by
  by_cases ht : M.TreeR fs
  · exact (h.1 ht).unique ht.rise (h'.1 ht)
  · rw [h.2 ht, h'.2 ht]
theorem M.FindR.long {fs : List M.FileD} {p : ByteArray} (h : 150 < p.size) : M.FindR fs p M.zeroF :=
  ⟨fun ht => .inr ⟨fun k hk e => by have := M.path_size (ht.file k hk); rw [e] at this; omega, rfl⟩, fun _ => rfl⟩
theorem M.FindR.no {fs : List M.FileD} {p : ByteArray} (h : ¬ M.TreeR fs) : M.FindR fs p M.zeroF := ⟨fun ht => absurd ht h, fun _ => rfl⟩

theorem M.data_size {f : M.FileD} (h : M.fileR f = true) : f.data.size ≤ 1200 := by
  unfold M.fileR at h
  simp only [Bool.and_eq_true, decide_eq_true_eq] at h
  exact h.1.2

theorem iClone_any (s : ByteArray) (w : World) (hs : s.size ≤ 100000000) : Calls Tryd.prog 44 #[.string s] w fun e w' => e = .returned (.string s) ∧ Below w.heap.size w w' := by
  have HC : Hid (Calls Tryd.prog 55 #[.string s] w fun e w' => e = .returned (.string s) ∧ Below w.heap.size w w') := Tryd.stringslite_Clone s w (by omega)
  go_enter Tryd.func44, Tryd.ntmps44
  go_wp2_with fail
  refine HC.out.mono ?_
  rintro e w1 ⟨rfl, hb⟩
  have HB : Hid (Below w.heap.size w w1) := hb
  clear hb
  go_wp2
  go_ret
  exact ⟨rfl, HB.out⟩

theorem M.blk_cell {W : World} {H : Nat} {arr : Array Value} {T : TypeId} (h : W.heap[H]? = some (.cells arr T (0, 0))) (i : Nat) (v : Value) (hv : arr[i]? = some v) : W.cell? ⟨H, i, none⟩ = some v := by
  simp only [World.cell?, h]; simpa using hv
theorem M.blk_free {W : World} {H : Nat} {arr : Array Value} {T : TypeId} (h : W.heap[H]? = some (.cells arr T (0, 0))) (i : Nat) : W.frozen? ⟨H, i, none⟩ = false := by
  simp [World.frozen?, h]
theorem M.blk_set {W : World} {H : Nat} {arr : Array Value} {T : TypeId} (h : W.heap[H]? = some (.cells arr T (0, 0))) (i : Nat) (v : Value) : (W.setCell ⟨H, i, none⟩ v).heap[H]? = some (.cells (arr.setIfInBounds i v) T (0, 0)) := by
  simp only [World.setCell, Array.getElem?_modify, h]
  simp
theorem M.blk_other {W : World} {H K : Nat} (hne : H ≠ K) (i : Nat) (v : Value) : (W.setCell ⟨H, i, none⟩ v).heap[K]? = W.heap[K]? := by
  simp only [World.setCell, Array.getElem?_modify, if_neg hne]

set_option maxRecDepth 100000 in
set_option maxHeartbeats 1600000 in
theorem iCopy_any (f : M.FileD) (w : World) (h1 : f.path.size ≤ 100000000) (h2 : f.data.size ≤ 100000000) :
    Calls Tryd.prog 32 #[M.fval f] w fun e w' => e = .returned (M.fval f) ∧ Below w.heap.size w w' := by
  have HC1 : Hid (∀ W, Calls Tryd.prog 44 #[.string f.path] W fun e w' => e = .returned (.string f.path) ∧ Below W.heap.size W w') := fun W => iClone_any f.path W h1
  have HC2 : Hid (∀ W, Calls Tryd.prog 44 #[.string f.data] W fun e w' => e = .returned (.string f.data) ∧ Below W.heap.size W w') := fun W => iClone_any f.data W h2
  clear h1 h2
  obtain ⟨p, d, m, t, x⟩ := f
  unfold M.fval
  simp only at HC1 HC2 ⊢
  go_enter Tryd.func32, Tryd.ntmps32
  go_wp2_with fail
  refine (HC1.out _).mono ?_
  rintro e w1 ⟨rfl, hb⟩
  have g1 : w1.heap[w.heap.size]? = some (.cells #[.string p, .bool d, .int .i64 m, .int .i64 t, .string x] 31 (0, 0)) := by
    rw [hb.block _ (by simp; omega), ((Below.refl _ (w.alloc (.cells #[.string p, .bool d, .int .i64 m, .int .i64 t, .string x] 31))).alloc (Nat.le_refl _) _).block _ (by simp)]; exact heap_alloc_new _ _
  have g2 : w1.heap[w.heap.size + 1]? = some (.cells #[.string ⟨#[]⟩, .bool false, .int .i64 0, .int .i64 0, .string ⟨#[]⟩] 31 (0, 0)) := by
    rw [hb.block _ (by simp)]; simpa using heap_alloc_new (w.alloc (.cells #[.string p, .bool d, .int .i64 m, .int .i64 t, .string x] 31)) _
  have B1 : Hid (Below w.heap.size w w1) := (((Below.refl _ w).alloc (Nat.le_refl _) _).alloc (by simp) _).trans (hb.mono (by simp; omega))
  clear hb
  have k0 := M.blk_cell g1 0 _ rfl
  have k4 := M.blk_cell g1 4 _ rfl
  have z0 := M.blk_free g1 0
  have g1' : (w1.setCell ⟨w.heap.size, 0, none⟩ (.string p)).heap[w.heap.size]? = some (.cells #[.string p, .bool d, .int .i64 m, .int .i64 t, .string x] 31 (0, 0)) := by rw [M.blk_set g1]; simp
  have g2' : (w1.setCell ⟨w.heap.size, 0, none⟩ (.string p)).heap[w.heap.size + 1]? = some (.cells #[.string ⟨#[]⟩, .bool false, .int .i64 0, .int .i64 0, .string ⟨#[]⟩] 31 (0, 0)) := by rw [M.blk_other (by omega)]; exact g2
  have G1 : Hid ((w1.setCell ⟨w.heap.size, 0, none⟩ (.string p)).heap[w.heap.size]? = some (.cells #[.string p, .bool d, .int .i64 m, .int .i64 t, .string x] 31 (0, 0))) := g1'
  have G2 : Hid ((w1.setCell ⟨w.heap.size, 0, none⟩ (.string p)).heap[w.heap.size + 1]? = some (.cells #[.string ⟨#[]⟩, .bool false, .int .i64 0, .int .i64 0, .string ⟨#[]⟩] 31 (0, 0))) := g2'
  have B2 : Hid (Below w.heap.size w (w1.setCell ⟨w.heap.size, 0, none⟩ (.string p))) := B1.out.setCell (Nat.le_refl _) _
  have hsz : w.heap.size + 1 < (w1.setCell ⟨w.heap.size, 0, none⟩ (.string p)).heap.size := (Array.getElem?_eq_some_iff.1 g2').1
  have HSZ : Hid (w.heap.size + 1 < (w1.setCell ⟨w.heap.size, 0, none⟩ (.string p)).heap.size) := hsz
  clear g1 g2 g1' g2' hsz B1
  go_wp2_with fail
  refine (HC2.out _).mono ?_
  rintro e w2 ⟨rfl, hb⟩
  have g1 : w2.heap[w.heap.size]? = some (.cells #[.string p, .bool d, .int .i64 m, .int .i64 t, .string x] 31 (0, 0)) := by
    rw [hb.block _ (by have := HSZ.out; omega)]; exact G1.out
  have g2 : w2.heap[w.heap.size + 1]? = some (.cells #[.string ⟨#[]⟩, .bool false, .int .i64 0, .int .i64 0, .string ⟨#[]⟩] 31 (0, 0)) := by
    rw [hb.block _ HSZ.out]; exact G2.out
  have B3 : Hid (Below w.heap.size w w2) := B2.out.trans (hb.mono B2.out.size)
  clear hb k0 k4 z0
  have y0 := M.blk_cell g1 0 _ rfl
  have y1 := M.blk_cell g1 1 _ rfl
  have y2 := M.blk_cell g1 2 _ rfl
  have y3 := M.blk_cell g1 3 _ rfl
  have y4 := M.blk_cell g1 4 _ rfl
  have z4 := M.blk_free g1 4
  have x0 := M.blk_cell g2 0 _ rfl
  have x1 := M.blk_cell g2 1 _ rfl
  have x2 := M.blk_cell g2 2 _ rfl
  have x3 := M.blk_cell g2 3 _ rfl
  have x4 := M.blk_cell g2 4 _ rfl
  have t0 := M.blk_free g2 0
  have t1 := M.blk_free g2 1
  have t2 := M.blk_free g2 2
  have t3 := M.blk_free g2 3
  have t4 := M.blk_free g2 4
  clear g1 g2 HSZ G1 G2 B2
  go_wp2
  refine bodyPost_ret (v := .agg #[.string p, .bool d, .int .i64 m, .int .i64 t, .string x]) (by simp [results, Tryd.results32, go_sem, x0, x1, x2, x3, x4]) rfl ⟨rfl, ?_⟩
  exact (((((B3.out.setCell (by exact Nat.le_refl _) _).setCell (by exact Nat.le_succ _) _).setCell (by exact Nat.le_succ _) _).setCell (by exact Nat.le_succ _) _).setCell (by exact Nat.le_succ _) _).setCell (by exact Nat.le_succ _) _

set_option maxRecDepth 100000 in
set_option maxHeartbeats 1600000 in
theorem sFind_any (w : World) (a : Option Addr) (len cap : Nat) (fs : List M.FileD) (p : ByteArray) (h : M.Files w a len cap fs) (hok : ∀ f ∈ fs, M.fok f) (hp : p.size ≤ 9223372036854775807) :
    Calls Tryd.prog 14 #[.slice a len cap, .string p] w fun e w' => ∃ f, e = .returned (M.fval f) ∧ M.FindR fs p f ∧ Below w.heap.size w w' := by
  have hlm : len ≤ 9223372036854775807 := by obtain ⟨_, h1, h2, _⟩ := h; unfold maxLen at h2; omega
  have HFL : Hid (len = fs.length) := h.1
  have HF : Hid (M.Files w a len cap fs) := h
  have HOK : Hid (∀ f ∈ fs, M.fok f) := hok
  clear h hok
  have gW : (w.alloc (.cells #[.string ⟨#[]⟩, .bool false, .int .i64 0, .int .i64 0, .string ⟨#[]⟩] 31 (0, 0))).heap[w.heap.size]? = some (.cells #[.string ⟨#[]⟩, .bool false, .int .i64 0, .int .i64 0, .string ⟨#[]⟩] 31 (0, 0)) := heap_alloc_new _ _
  have BW : Hid (Below w.heap.size w (w.alloc (.cells #[.string ⟨#[]⟩, .bool false, .int .i64 0, .int .i64 0, .string ⟨#[]⟩] 31 (0, 0)))) := (Below.refl _ _).alloc (Nat.le_refl _) _
  by_cases hbig : 400 < len
  · have HZ : Hid (M.FindR fs p M.zeroF) := M.FindR.no (fun h => absurd h.len (by have := HFL.out; omega))
    have d1 : decide (400 < (len : Int)) = true := decide_eq_true (by omega)
    have x0 := M.blk_cell gW 0 _ rfl
    have x1 := M.blk_cell gW 1 _ rfl
    have x2 := M.blk_cell gW 2 _ rfl
    have x3 := M.blk_cell gW 3 _ rfl
    have x4 := M.blk_cell gW 4 _ rfl
    have t0 := M.blk_free gW 0
    have t1 := M.blk_free gW 1
    have t2 := M.blk_free gW 2
    have t3 := M.blk_free gW 3
    have t4 := M.blk_free gW 4
    clear gW
    go_enter Tryd.func14, Tryd.ntmps14
    go_wp2
    refine bodyPost_ret (v := .agg #[.string ⟨#[]⟩, .bool false, .int .i64 0, .int .i64 0, .string ⟨#[]⟩]) (by simp [results, Tryd.results14, go_sem]) rfl ?_
    exact ⟨M.zeroF, rfl, HZ.out, BW.out⟩
  by_cases hlong : 20000 < p.size
  · have HZ : Hid (M.FindR fs p M.zeroF) := M.FindR.long (by omega)
    have d2 : decide (20000 < (p.size : Int)) = true := decide_eq_true (by omega)
    clear gW
    go_enter Tryd.func14, Tryd.ntmps14
    go_wp2
    refine bodyPost_ret (v := .agg #[.string ⟨#[]⟩, .bool false, .int .i64 0, .int .i64 0, .string ⟨#[]⟩]) (by simp [results, Tryd.results14, go_sem]) rfl ?_
    exact ⟨M.zeroF, rfl, HZ.out, BW.out⟩
  have d1 : decide (400 < (len : Int)) = false := decide_eq_false (by omega)
  have d2 : decide (20000 < (p.size : Int)) = false := decide_eq_false (by omega)
  have GW : Hid ((w.alloc (.cells #[.string ⟨#[]⟩, .bool false, .int .i64 0, .int .i64 0, .string ⟨#[]⟩] 31 (0, 0))).heap[w.heap.size]? = some (.cells #[.string ⟨#[]⟩, .bool false, .int .i64 0, .int .i64 0, .string ⟨#[]⟩] 31 (0, 0))) := gW
  clear gW
  go_enter Tryd.func14, Tryd.ntmps14
  go_wp2_with fail
  refine (sTree_any _ a len cap fs (HF.out.below BW.out) HOK.out).mono ?_
  rintro e w1 ⟨v, rfl, hv, hb⟩
  have g1 : w1.heap[w.heap.size]? = some (.cells #[.string ⟨#[]⟩, .bool false, .int .i64 0, .int .i64 0, .string ⟨#[]⟩] 31 (0, 0)) := by rw [hb.block _ (by simp)]; exact GW.out
  have HV : Hid (v = true ↔ M.TreeR fs) := hv
  have B1 : Hid (Below w.heap.size w w1) := BW.out.trans (hb.mono BW.out.size)
  have G1 : Hid (w1.heap[w.heap.size]? = some (.cells #[.string ⟨#[]⟩, .bool false, .int .i64 0, .int .i64 0, .string ⟨#[]⟩] 31 (0, 0))) := g1
  clear hv hb GW BW
  cases v
  · have HZ : Hid (M.FindR fs p M.zeroF) := M.FindR.no (fun h => by have := HV.out.2 h; cases this)
    have x0 := M.blk_cell g1 0 _ rfl
    have x1 := M.blk_cell g1 1 _ rfl
    have x2 := M.blk_cell g1 2 _ rfl
    have x3 := M.blk_cell g1 3 _ rfl
    have x4 := M.blk_cell g1 4 _ rfl
    have t0 := M.blk_free g1 0
    have t1 := M.blk_free g1 1
    have t2 := M.blk_free g1 2
    have t3 := M.blk_free g1 3
    have t4 := M.blk_free g1 4
    clear g1 G1
    go_wp2
    refine bodyPost_ret (v := .agg #[.string ⟨#[]⟩, .bool false, .int .i64 0, .int .i64 0, .string ⟨#[]⟩]) (by simp [results, Tryd.results14, go_sem, x0, x1, x2, x3, x4]) rfl ?_
    exact ⟨M.zeroF, rfl, HZ.out, ((((B1.out.setCell (by exact Nat.le_refl _) _).setCell (by exact Nat.le_refl _) _).setCell (by exact Nat.le_refl _) _).setCell (by exact Nat.le_refl _) _).setCell (by exact Nat.le_refl _) _⟩
  have HT : Hid (M.TreeR fs) := HV.out.1 rfl
  clear HV g1
  go_wp2_with fail
  refine (sPlace_any w1 a len cap fs p (HF.out.below B1.out)).mono ?_
  rintro e w2 ⟨k, v, rfl, hpl, hth, hb⟩
  have g2 : w2.heap[w.heap.size]? = some (.cells #[.string ⟨#[]⟩, .bool false, .int .i64 0, .int .i64 0, .string ⟨#[]⟩] 31 (0, 0)) := by rw [hb.block _ (Array.getElem?_eq_some_iff.1 G1.out).1]; exact G1.out
  have HPL : Hid (M.Place fs p k) := hpl
  have HTH : Hid (v = true ↔ M.There fs p k) := hth
  have B2 : Hid (Below w.heap.size w w2) := B1.out.trans (hb.mono B1.out.size)
  clear hpl hth hb G1 B1
  have x0 := M.blk_cell g2 0 _ rfl
  have x1 := M.blk_cell g2 1 _ rfl
  have x2 := M.blk_cell g2 2 _ rfl
  have x3 := M.blk_cell g2 3 _ rfl
  have x4 := M.blk_cell g2 4 _ rfl
  have t0 := M.blk_free g2 0
  have t1 := M.blk_free g2 1
  have t2 := M.blk_free g2 2
  have t3 := M.blk_free g2 3
  have t4 := M.blk_free g2 4
  clear g2
  cases v
  · have hnot : ∀ j (hj : j < fs.length), fs[j].path ≠ p := fun j hj e => by
      have hth : M.There fs p j := ⟨hj, e⟩
      obtain rfl := HPL.out.eq_of_there HT.out.rise hth
      have := HTH.out.2 hth
      exact absurd this (by simp)
    have HZ : Hid (M.FindR fs p M.zeroF) := ⟨fun _ => .inr ⟨hnot, rfl⟩, fun hn => absurd HT.out hn⟩
    clear hnot
    go_wp2
    refine bodyPost_ret (v := .agg #[.string ⟨#[]⟩, .bool false, .int .i64 0, .int .i64 0, .string ⟨#[]⟩]) (by simp [results, Tryd.results14, go_sem, x0, x1, x2, x3, x4]) rfl ?_
    exact ⟨M.zeroF, rfl, HZ.out, ((((B2.out.setCell (by exact Nat.le_refl _) _).setCell (by exact Nat.le_refl _) _).setCell (by exact Nat.le_refl _) _).setCell (by exact Nat.le_refl _) _).setCell (by exact Nat.le_refl _) _⟩
  · obtain ⟨hk, hkp⟩ := HTH.out.1 rfl
    have hfl := HFL.out
    have hkl : k < len := by omega
    obtain ⟨-, -, -, hfa⟩ := HF.out.below B2.out
    obtain ⟨b, off, rfl, hat⟩ := hfa (by omega)
    obtain ⟨c0, c1, c2, c3, c4⟩ := hat k hk
    have HZ : Hid (M.FindR fs p fs[k]) := ⟨fun _ => .inl ⟨k, hk, hkp, rfl⟩, fun hn => absurd HT.out hn⟩
    generalize fs[k]'hk = f at c0 c1 c2 c3 c4 HZ
    clear hfa hat hkp hk hfl HTH HPL
    go_wp2
    refine bodyPost_ret (v := M.fval f) (by simp [results, Tryd.results14, go_sem, M.fval, x0, x1, x2, x3, x4]) rfl ?_
    exact ⟨f, rfl, HZ.out, ((((B2.out.setCell (by exact Nat.le_refl _) _).setCell (by exact Nat.le_refl _) _).setCell (by exact Nat.le_refl _) _).setCell (by exact Nat.le_refl _) _).setCell (by exact Nat.le_refl _) _⟩

set_option maxRecDepth 100000 in
set_option maxHeartbeats 1600000 in
theorem iFind_any (w : World) (a : Option Addr) (len cap : Nat) (fs : List M.FileD) (p : ByteArray) (h : M.Files w a len cap fs) (hok : ∀ f ∈ fs, M.fok f) (hp : p.size ≤ maxLen) (hm : M.ml w) :
    Calls Tryd.prog 15 #[.slice a len cap, .string p] w fun e w' => ∃ f, e = .returned (M.fval f) ∧ M.FindR fs p f ∧ Below w.heap.size w w' := by
  have hlm : len ≤ 9223372036854775807 := by obtain ⟨_, h1, h2, _⟩ := h; unfold maxLen at h2; omega
  have HFL : Hid (len = fs.length) := h.1
  have HF : Hid (M.Files w a len cap fs) := h
  have HOK : Hid (∀ f ∈ fs, M.fok f) := hok
  have HM : Hid (M.ml w) := hm
  have HPS : Hid (p.size ≤ maxLen) := hp
  clear h hok hm hp
  have BW : Hid (Below w.heap.size w (w.alloc (.cells #[.string ⟨#[]⟩, .bool false, .int .i64 0, .int .i64 0, .string ⟨#[]⟩] 31 (0, 0)))) := (Below.refl _ _).alloc (Nat.le_refl _) _
  have GW : Hid ((w.alloc (.cells #[.string ⟨#[]⟩, .bool false, .int .i64 0, .int .i64 0, .string ⟨#[]⟩] 31 (0, 0))).heap[w.heap.size]? = some (.cells #[.string ⟨#[]⟩, .bool false, .int .i64 0, .int .i64 0, .string ⟨#[]⟩] 31 (0, 0))) := heap_alloc_new _ _
  go_enter Tryd.func15, Tryd.ntmps15
  go_wp2_with fail
  refine (iTree_any _ a len cap fs (HF.out.below BW.out) HOK.out (M.ml_below HM.out BW.out)).mono ?_
  rintro e w1 ⟨v, rfl, hv, hb⟩
  have g1 : w1.heap[w.heap.size]? = some (.cells #[.string ⟨#[]⟩, .bool false, .int .i64 0, .int .i64 0, .string ⟨#[]⟩] 31 (0, 0)) := by rw [hb.block _ (by simp)]; exact GW.out
  have HV : Hid (v = true ↔ M.TreeR fs) := hv
  have B1 : Hid (Below w.heap.size w w1) := BW.out.trans (hb.mono BW.out.size)
  have G1 : Hid (w1.heap[w.heap.size]? = some (.cells #[.string ⟨#[]⟩, .bool false, .int .i64 0, .int .i64 0, .string ⟨#[]⟩] 31 (0, 0))) := g1
  clear hv hb GW BW
  cases v
  · have HZ : Hid (M.FindR fs p M.zeroF) := M.FindR.no (fun h => by have := HV.out.2 h; cases this)
    have x0 := M.blk_cell g1 0 _ rfl
    have x1 := M.blk_cell g1 1 _ rfl
    have x2 := M.blk_cell g1 2 _ rfl
    have x3 := M.blk_cell g1 3 _ rfl
    have x4 := M.blk_cell g1 4 _ rfl
    have t0 := M.blk_free g1 0
    have t1 := M.blk_free g1 1
    have t2 := M.blk_free g1 2
    have t3 := M.blk_free g1 3
    have t4 := M.blk_free g1 4
    clear g1 G1
    go_wp2
    refine bodyPost_ret (v := .agg #[.string ⟨#[]⟩, .bool false, .int .i64 0, .int .i64 0, .string ⟨#[]⟩]) (by simp [results, Tryd.results15, go_sem, x0, x1, x2, x3, x4]) rfl ?_
    exact ⟨M.zeroF, rfl, HZ.out, ((((B1.out.setCell (by exact Nat.le_refl _) _).setCell (by exact Nat.le_refl _) _).setCell (by exact Nat.le_refl _) _).setCell (by exact Nat.le_refl _) _).setCell (by exact Nat.le_refl _) _⟩
  have HT : Hid (M.TreeR fs) := HV.out.1 rfl
  clear HV g1
  go_wp2_with fail
  refine (iByPath_any w1 a len cap fs (HF.out.below B1.out) HOK.out (by have h1 := HT.out.len; have h2 := HFL.out; omega)).mono ?_
  rintro e w2 ⟨rfl, hown, hb⟩
  have g2 : w2.heap[w.heap.size]? = some (.cells #[.string ⟨#[]⟩, .bool false, .int .i64 0, .int .i64 0, .string ⟨#[]⟩] 31 (0, 0)) := by rw [hb.block _ (Array.getElem?_eq_some_iff.1 G1.out).1]; exact G1.out
  have G2 : Hid (w2.heap[w.heap.size]? = some (.cells #[.string ⟨#[]⟩, .bool false, .int .i64 0, .int .i64 0, .string ⟨#[]⟩] 31 (0, 0))) := g2
  have B2 : Hid (Below w.heap.size w w2) := B1.out.trans (hb.mono B1.out.size)
  obtain ⟨v, ps, hrun, hv⟩ := hown.lookup M.keyS Tryd.underlying47 (zeroFile _) (M.fileElem_mk M.zeroF) (Go.WideMaps.keyOf_string_mk Tryd.underlying9 (s := p) HPS.out)
  obtain ⟨g, rfl, hg⟩ := M.fileElem_inv hv
  have hlk : (M.dat fs).atKey (M.key p) (.held M.zeroF) = .held g := congrArg Prod.fst hg
  have hfound : M.Found fs p g ∧ g.path.size ≤ 150 ∧ g.data.size ≤ 1200 := by
    rcases M.dat_look p (.held M.zeroF) fs with ⟨j, hj, e1, e2⟩ | ⟨e1, e2⟩
    · rw [hlk] at e2
      have e3 : g = fs[j] := by simpa using e2
      subst e3
      exact ⟨.inl ⟨j, hj, e1, rfl⟩, M.path_size (HT.out.file j hj), M.data_size (HT.out.file j hj)⟩
    · rw [hlk] at e2
      have e3 : g = M.zeroF := by simpa using e2
      subst e3
      exact ⟨.inr ⟨e1, rfl⟩, by decide, by decide⟩
  have HZ : Hid (M.FindR fs p g) := ⟨fun _ => hfound.1, fun hn => absurd HT.out hn⟩
  have hC := fun W => iCopy_any g W (by have := hfound.2.1; omega) (by have := hfound.2.2; omega)
  clear hv hg hlk hfound hb hown g2 B1 G1
  obtain ⟨gp, gd, gm, gt, gx⟩ := g
  unfold M.fval at hrun hC
  simp only at hrun hC
  have HC : Hid (∀ W, Calls Tryd.prog 32 #[.agg #[.string gp, .bool gd, .int .i64 gm, .int .i64 gt, .string gx]] W fun e w' => e = .returned (.agg #[.string gp, .bool gd, .int .i64 gm, .int .i64 gt, .string gx]) ∧ Below W.heap.size W w') := hC
  clear hC
  generalize w1.heap.size = H1 at hrun
  go_wp2_with fail
  refine (HC.out _).mono ?_
  rintro e w3 ⟨rfl, hb⟩
  have g3 : w3.heap[w.heap.size]? = some (.cells #[.string ⟨#[]⟩, .bool false, .int .i64 0, .int .i64 0, .string ⟨#[]⟩] 31 (0, 0)) := by rw [hb.block _ (Array.getElem?_eq_some_iff.1 G2.out).1]; exact G2.out
  have B3 : Hid (Below w.heap.size w w3) := B2.out.trans (hb.mono B2.out.size)
  clear hb hrun
  have x0 := M.blk_cell g3 0 _ rfl
  have x1 := M.blk_cell g3 1 _ rfl
  have x2 := M.blk_cell g3 2 _ rfl
  have x3 := M.blk_cell g3 3 _ rfl
  have x4 := M.blk_cell g3 4 _ rfl
  have t0 := M.blk_free g3 0
  have t1 := M.blk_free g3 1
  have t2 := M.blk_free g3 2
  have t3 := M.blk_free g3 3
  have t4 := M.blk_free g3 4
  clear g3 G2 B2
  go_wp2
  refine bodyPost_ret (v := .agg #[.string gp, .bool gd, .int .i64 gm, .int .i64 gt, .string gx]) (by simp [results, Tryd.results15, go_sem, x0, x1, x2, x3, x4]) rfl ?_
  exact ⟨⟨gp, gd, gm, gt, gx⟩, rfl, HZ.out, ((((B3.out.setCell (by exact Nat.le_refl _) _).setCell (by exact Nat.le_refl _) _).setCell (by exact Nat.le_refl _) _).setCell (by exact Nat.le_refl _) _).setCell (by exact Nat.le_refl _) _⟩
end Go.Proofs.YtbmbcfnlpbbapagDoor
