/-
  For every list of files and every path the law of TreeFind returns true.
-/
import Derived.Test.YtbmbcfnlpbbapagDoorFindWalks
import Derived.Test.YtbmbcfnlpbbapagDoorToF
import Derived.WalkKit
import Derived.WalkSpells
import Derived.WalkLawsBesides
namespace Go.Proofs.YtbmbcfnlpbbapagDoor
open Go.RowKit

set_option maxRecDepth 100000 in
set_option maxHeartbeats 1600000 in
theorem fnExactTreeFind_walk (a0 : Option Addr) (len0 cap0 : Nat) (fs0 : List M.FileD) (p : ByteArray) (w : World) (h0 : M.Files w a0 len0 cap0 fs0) (ok0 : ∀ f ∈ fs0, M.fok f) (hp : p.size ≤ maxLen) (hm : M.ml w) :
    Calls Tryd.prog 5 #[.slice a0 len0 cap0, .string p] w fun e w' => e = .returned (.bool true) ∧ Below w.heap.size w w' := by
  have H0 : Hid (M.Files w a0 len0 cap0 fs0) := h0
  have O0 : Hid (∀ f ∈ fs0, M.fok f) := ok0
  have HM : Hid (M.ml w) := hm
  have HP : Hid (p.size ≤ maxLen) := hp
  have hp' : p.size ≤ 9223372036854775807 := by unfold maxLen at hp; omega
  clear h0 ok0 hm hp
  by_cases hbig : 1048576 < p.size
  · go_enter Tryd.func5, Tryd.ntmps5
    go_wp2
    go_ret
    exact ⟨rfl, Below.refl _ _⟩
  go_enter Tryd.func5, Tryd.ntmps5
  go_wp2_with fail
  refine (szFileS_any _ a0 len0 cap0 fs0 1048576 H0.out O0.out (by omega) (by omega)).mono ?_
  rintro e w1 ⟨v, rfl, hv1, hv2, hb⟩
  have HV2 : Hid (0 ≤ v → (len0 : Int) ≤ 1048576 ∧ ∀ f ∈ fs0, (f.path.size : Int) + f.data.size ≤ 1048576) := hv2
  have B1 : Hid (Below w.heap.size w w1) := hb
  clear hv2 hb
  by_cases hneg : v < 0
  · go_wp2
    go_ret
    exact ⟨rfl, B1.out⟩
  have hl0 := (HV2.out (by omega)).1
  clear HV2
  go_wp2_with fail
  refine (toF_any w1 a0 len0 cap0 fs0 (H0.out.below B1.out) (by omega)).mono ?_
  rintro e w3 ⟨b3, rfl, hf3, hb⟩
  have F3 : Hid (M.Files w3 (some ⟨b3, 0, none⟩) len0 len0 fs0) := hf3
  have B3 : Hid (Below w.heap.size w w3) := B1.out.trans (hb.mono B1.out.size)
  clear hf3 hb B1
  go_wp2_with fail
  refine (sFind_any w3 _ len0 len0 fs0 p F3.out O0.out hp').mono ?_
  rintro e w5 ⟨s, rfl, hs, hb⟩
  have HS : Hid (M.FindR fs0 p s) := hs
  have B5 : Hid (Below w.heap.size w w5) := B3.out.trans (hb.mono B3.out.size)
  clear hs hb B3 F3
  unfold M.fval
  have W5 : Hid (Below w.heap.size w (w5.alloc (.cells #[.string s.path, .bool s.dir, .int .i64 s.mode, .int .i64 s.time, .string s.data] 31 (0, 0)))) := B5.out.alloc B5.out.size _
  have G5 : Hid ((w5.alloc (.cells #[.string s.path, .bool s.dir, .int .i64 s.mode, .int .i64 s.time, .string s.data] 31 (0, 0))).heap[w5.heap.size]? = some (.cells #[.string s.path, .bool s.dir, .int .i64 s.mode, .int .i64 s.time, .string s.data] 31 (0, 0))) := heap_alloc_new _ _
  clear B5
  go_wp2_with fail
  refine (toF_any _ a0 len0 cap0 fs0 (H0.out.below W5.out) (by omega)).mono ?_
  rintro e w6 ⟨b6, rfl, hf6, hb⟩
  have F6 : Hid (M.Files w6 (some ⟨b6, 0, none⟩) len0 len0 fs0) := hf6
  have G6 : Hid (w6.heap[w5.heap.size]? = some (.cells #[.string s.path, .bool s.dir, .int .i64 s.mode, .int .i64 s.time, .string s.data] 31 (0, 0))) := by show _ = _; rw [hb.block _ (by simp)]; exact G5.out
  have B6 : Hid (Below w.heap.size w w6) := W5.out.trans (hb.mono W5.out.size)
  clear hf6 hb W5 G5
  generalize w5.heap.size = H5 at G6
  go_wp2_with fail
  refine (iFind_any w6 _ len0 len0 fs0 p F6.out O0.out HP.out (M.ml_below HM.out B6.out)).mono ?_
  rintro e w8 ⟨t, rfl, ht, hb⟩
  obtain rfl : s = t := HS.out.unique ht
  have F8 : Hid (M.Files w8 (some ⟨b6, 0, none⟩) len0 len0 fs0) := F6.out.below hb
  have G8 : Hid (w8.heap[H5]? = some (.cells #[.string s.path, .bool s.dir, .int .i64 s.mode, .int .i64 s.time, .string s.data] 31 (0, 0))) := by show _ = _; rw [hb.block _ (Array.getElem?_eq_some_iff.1 G6.out).1]; exact G6.out
  have B8 : Hid (Below w.heap.size w w8) := B6.out.trans (hb.mono B6.out.size)
  clear ht hb B6 F6 HS G6
  unfold M.fval
  have c0 := M.blk_cell G8.out 0 _ rfl
  have c1 := M.blk_cell G8.out 1 _ rfl
  have c2 := M.blk_cell G8.out 2 _ rfl
  have c3 := M.blk_cell G8.out 3 _ rfl
  have c4 := M.blk_cell G8.out 4 _ rfl
  have hne : H5 ≠ w8.heap.size := by have := (Array.getElem?_eq_some_iff.1 G8.out).1; omega
  have bb := (Below.refl _ w8).alloc (Nat.le_refl _) (.cells #[.string s.path, .bool s.dir, .int .i64 s.mode, .int .i64 s.time, .string s.data] 31 (0, 0))
  have e0 := bb.cell (p := ⟨H5, 0, none⟩) (Array.getElem?_eq_some_iff.1 G8.out).1
  have e1 := bb.cell (p := ⟨H5, 1, none⟩) (Array.getElem?_eq_some_iff.1 G8.out).1
  have e2 := bb.cell (p := ⟨H5, 2, none⟩) (Array.getElem?_eq_some_iff.1 G8.out).1
  have e3 := bb.cell (p := ⟨H5, 3, none⟩) (Array.getElem?_eq_some_iff.1 G8.out).1
  have e4 := bb.cell (p := ⟨H5, 4, none⟩) (Array.getElem?_eq_some_iff.1 G8.out).1
  rw [c0] at e0
  rw [c1] at e1
  rw [c2] at e2
  rw [c3] at e3
  rw [c4] at e4
  clear c0 c1 c2 c3 c4 bb
  have hQ := eqFile_any s s
  rw [M.feq_iff.2 rfl] at hQ
  unfold M.fval at hQ
  have HQ : Hid (∀ W, Calls Tryd.prog 16 #[.agg #[.string s.path, .bool s.dir, .int .i64 s.mode, .int .i64 s.time, .string s.data], .agg #[.string s.path, .bool s.dir, .int .i64 s.mode, .int .i64 s.time, .string s.data]] W fun e w' => e = .returned (.bool true) ∧ Below W.heap.size W w') := hQ
  have W8 : Hid (Below w.heap.size w (w8.alloc (.cells #[.string s.path, .bool s.dir, .int .i64 s.mode, .int .i64 s.time, .string s.data] 31 (0, 0)))) := B8.out.alloc B8.out.size _
  have F8' : Hid (M.Files (w8.alloc (.cells #[.string s.path, .bool s.dir, .int .i64 s.mode, .int .i64 s.time, .string s.data] 31 (0, 0))) (some ⟨b6, 0, none⟩) len0 len0 fs0) := F8.out.below ((Below.refl _ w8).alloc (Nat.le_refl _) _)
  clear hQ B8 F8 G8
  go_wp2_with fail
  refine (HQ.out _).mono ?_
  rintro e w9 ⟨rfl, hb⟩
  have F9 : Hid (M.Files w9 (some ⟨b6, 0, none⟩) len0 len0 fs0) := F8'.out.below hb
  have B9 : Hid (Below w.heap.size w w9) := W8.out.trans (hb.mono W8.out.size)
  clear hb W8 F8' e0 e1 e2 e3 e4 hne
  go_wp2_with fail
  refine (toF_any w9 a0 len0 cap0 fs0 (H0.out.below B9.out) (by omega)).mono ?_
  rintro e w10 ⟨b10, rfl, hf10, hb⟩
  have F10 : Hid (M.Files w10 (some ⟨b10, 0, none⟩) len0 len0 fs0) := hf10
  have F910 : Hid (M.Files w10 (some ⟨b6, 0, none⟩) len0 len0 fs0) := F9.out.below hb
  have B10 : Hid (Below w.heap.size w w10) := B9.out.trans (hb.mono B9.out.size)
  clear hf10 hb B9 F9
  go_wp2_with fail
  refine (eqFileS_any w10 _ _ len0 len0 len0 len0 fs0 fs0 F910.out F10.out).mono ?_
  rintro e w11 ⟨u, rfl, hu, hb⟩
  obtain rfl : u = true := hu.2 rfl
  have B11 : Hid (Below w.heap.size w w11) := B10.out.trans (hb.mono B10.out.size)
  clear hu hb B10 F910 F10
  go_wp2
  go_ret
  exact ⟨rfl, B11.out⟩
end Go.Proofs.YtbmbcfnlpbbapagDoor
