/-
  What the program's methods of a header do: put, sumText.
-/
import Derived.Test.YtbmbcfnlpbbapahDoorISum
import Derived.Test.YtbmbcfnlpbbapahDoorIOctal
namespace Go.Proofs.YtbmbcfnlpbbapahDoor
open Go.RowKit

theorem M.put_copy {w : World} {b : Nat} {L : List UInt8} (H : M.Arr w b 37 L) (hL : L.length = 512) (at' : Nat) (t : ByteArray) (hat : at' + t.size ≤ 512) :
    ∃ W, (Builtin.copy_ #[40, 9] 3 #[.slice (some ⟨b, at', none⟩) (512 - at') (512 - at'), .string t]).run Tryd.prog w = .ok (goInt t.size) W
      ∧ M.Arr W b 37 (M.over L at' t.data.toList) ∧ ∀ (B : Nat) (a : World), B ≤ b → Below B a w → Below B a W := by
  have hr := run_copy_string (P := Tryd.prog) w 40 9 3 5 b at' (512 - at') (512 - at') t Tryd.underlying40 M.sizeU (by omega)
    (fun j hj => by rw [H.row.cell (at' + j) (by omega)]; rfl) (fun j hj => H.row.free (at' + j) (by omega))
  refine ⟨_, hr, ?_, fun B a hB hb => Lib.below_setCells _ hB _ _ hb⟩
  exact M.Arr.setCells t.data.toList at' _ _ H (by rw [← Lib.size_eq]; omega)

set_option maxRecDepth 100000 in
set_option maxHeartbeats 800000 in
theorem iPut_any (b : Nat) (L : List UInt8) (at' : Nat) (t : ByteArray) (w : World) (hL : L.length = 512) (hat : at' + t.size ≤ 512) (hlt : at' < 512) (H : M.Arr w b 37 L) :
    Calls Tryd.prog 20 #[.pointer (some ⟨b, 0, none⟩), .int .i64 at', .string t] w fun e w' => e = .returned (.tuple #[]) ∧ (M.over L at' t.data.toList).length = 512 ∧ M.Arr w' b 37 (M.over L at' t.data.toList) ∧ ∀ (B : Nat) (a : World), B ≤ b → Below B a w → Below B a w' := by
  obtain ⟨W, hcp, HA, HB⟩ := M.put_copy H hL at' t hat
  have HH : Hid (M.Arr W b 37 (M.over L at' t.data.toList) ∧ ∀ (B : Nat) (a : World), B ≤ b → Below B a w → Below B a W) := ⟨HA, HB⟩
  have hsl : ∀ W, (Instr.sliceAt 37 (.pointer (some ⟨b, 0, none⟩)) (some (.int .i64 (at' : Int))) none none).run Tryd.prog W = .ok (.slice (some ⟨b, at', none⟩) (512 - at') (512 - at')) W := fun W => by
    have hal : Tryd.prog.arrayLen 37 = 512 := by simp [Program.arrayLen, Tryd.underlying37]
    rw [run_sliceAt_array_l W 37 ⟨b, 0, none⟩ (by simp [Program.arrayLen, Program.elem, Tryd.underlying37]) .i64 (at' : Int) (by omega) (by rw [hal]; omega)]
    go_simp
    omega
  clear HA HB H
  go_enter Tryd.func20, Tryd.ntmps20
  go_wp2
  exact bodyPost_end (v := .tuple #[]) (by simp [results, Tryd.results20]) rfl ⟨rfl, by rw [M.over_len (by rw [← Lib.size_eq]; omega)]; exact hL, HH.out⟩

set_option maxRecDepth 100000 in
set_option maxHeartbeats 800000 in
theorem iSumT_any (b : Nat) (L : List UInt8) (w : World) (hL : L.length = 512) (H : M.Arr w b 37 L) (ht : M.tz w) :
    Calls Tryd.prog 21 #[.pointer (some ⟨b, 0, none⟩)] w fun e w' => e = .returned (.string (M.octB (M.sumH ⟨L.toArray⟩) 6 ++ ⟨#[0, 32]⟩)) ∧ Below w.heap.size w w' := by
  have HS : Hid (Calls Tryd.prog 39 #[.pointer (some ⟨b, 0, none⟩)] w fun e w' => e = .returned (.int .i64 (M.sumH ⟨L.toArray⟩)) ∧ ∃ n, w' = w.drewN n) := iSum_any b L w hL H.row
  have hle : M.sumH ⟨L.toArray⟩ ≤ 1000000 := by
    have := M.sumK_le ⟨L.toArray⟩ (ByteArray.size ⟨L.toArray⟩)
    rw [Lib.size_eq] at this
    unfold M.sumH
    rw [Lib.size_eq]
    simp only [hL] at this ⊢
    omega
  obtain ⟨q, hq⟩ : ∃ q, q = M.sumH ⟨L.toArray⟩ := ⟨_, rfl⟩
  rw [← hq] at HS hle ⊢
  have HO : Hid (∀ n, Calls Tryd.prog 7 #[.int .i64 q, .int .i64 6] (w.drewN n) fun e w' => e = .returned (.string (M.octB q 6)) ∧ Below (w.drewN n).heap.size (w.drewN n) w') := fun n => by
    have := iOctal_any q 6 (w.drewN n) (by omega) (by omega) (by unfold M.tz at ht ⊢; rw [World.cell?_drewN]; exact ht)
    rwa [show M.octal q 6 = M.octB q 6 from M.octal_yes (d := 6) (by decide) (by decide)] at this
  have hz := M.octB_size q 6
  clear hq ht H
  go_enter Tryd.func21, Tryd.ntmps21
  go_wp2_with fail
  refine HS.out.mono ?_
  rintro e w1 ⟨rfl, n, rfl⟩
  go_wp2_with fail
  refine (HO.out n).mono ?_
  rintro e w2 ⟨rfl, hb⟩
  have HB : Hid (Below w.heap.size w w2) := (below_drewN (Below.refl _ _) n).trans hb
  clear hb
  generalize hE : M.octB q 6 = z at hz ⊢
  have HE : Hid (M.octB q 6 = z) := hE
  clear hE
  go_wp2
  go_ret
  exact ⟨by rw [HE.out]; rfl, HB.out⟩
end Go.Proofs.YtbmbcfnlpbbapahDoor
