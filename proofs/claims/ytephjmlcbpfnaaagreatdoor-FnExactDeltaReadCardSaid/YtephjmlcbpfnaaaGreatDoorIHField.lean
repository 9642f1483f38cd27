/-
  What the program's methods of a header that is read do: field, size, name.
-/
import Derived.Test.YtephjmlcbpfnaaaGreatDoorPart17
import Derived.Test.YtephjmlcbpfnaaaGreatDoorPart6
import Derived.Test.YtephjmlcbpfnaaaGreatDoorIOctR
import Derived.Test.YtephjmlcbpfnaaaGreatDoorShelf
import Derived.Test.YtephjmlcbpfnaaaGreatDoorIPathWalk
namespace Go.Proofs.YtephjmlcbpfnaaaGreatDoor
open Go.RowKit

theorem M.fieldRow {w : World} {b : Nat} {L : List UInt8} (H : M.Arr w b 113 L) (hL : L.length = 512) (a n : Nat) (h : a + n ≤ 512) :
    (convert 61 9 (.slice (some ⟨b, a, none⟩) n (512 - a))).run Tryz.prog w = .ok (.string (M.ba (M.cutL L a n))) w := by
  have hl : (M.cutL L a n).length = n := by unfold M.cutL; rw [List.length_take, List.length_drop]; omega
  have := run_convert_bytes_back w 61 9 5 ⟨b, a, none⟩ (512 - a) (M.cutL L a n) Tryz.underlying61 Tryz.underlying5 Tryz.underlying9 (fun i hi => by
    rw [Addr.add_lit]
    have h1 := H.row.cell (a + i) (by omega)
    have e2 : (M.cutL L a n)[i] = L[a + i]'(by omega) := by simp [M.cutL]
    rw [h1, e2])
  rw [hl] at this
  exact this

set_option maxRecDepth 100000 in
set_option maxHeartbeats 400000 in
theorem iField_any (b : Nat) (L : List UInt8) (a n : Nat) (w : World) (hL : L.length = 512) (h : a + n ≤ 512) (hn : 1 ≤ n) (H : M.Arr w b 113 L) :
    Calls Tryz.prog 114 #[.pointer (some ⟨b, 0, none⟩), .int .i64 a, .int .i64 n] w fun e w' => e = .returned (.string (M.ba (M.cutL L a n))) ∧ w = w' := by
  have hcv := M.fieldRow H hL a n h
  have hsl : ∀ W, (Instr.sliceAt 113 (.pointer (some ⟨b, 0, none⟩)) (some (.int .i64 (a : Int))) (some (.int .i64 ((a : Int) + (n : Int)))) none).run Tryz.prog W = .ok (.slice (some ⟨b, a, none⟩) n (512 - a)) W := fun W => by
    have hal : Tryz.prog.arrayLen 113 = 512 := by simp [Program.arrayLen, Tryz.underlying113]
    rw [run_sliceAt_array_lh W 113 ⟨b, 0, none⟩ (by simp [Program.arrayLen, Program.elem, Tryz.underlying113]) .i64 .i64 (a : Int) ((a : Int) + (n : Int)) (by omega) (by omega) (by rw [hal]; omega)]
    go_simp
    exact ⟨fun e => absurd e (by omega), by omega⟩
  generalize M.ba (M.cutL L a n) = x at hcv ⊢
  clear H
  go_enter Tryz.func114, Tryz.ntmps114
  go_wp2
  go_ret
  exact ⟨rfl, rfl⟩

set_option maxRecDepth 100000 in
set_option maxHeartbeats 400000 in
theorem iHSize_any (b : Nat) (L : List UInt8) (w : World) (hL : L.length = 512) (H : M.Arr w b 113 L) :
    Calls Tryz.prog 116 #[.pointer (some ⟨b, 0, none⟩)] w fun e w' => e = .returned (.int .i64 (M.sizeL L)) ∧ w = w' := by
  have HF : Hid (Calls Tryz.prog 114 #[.pointer (some ⟨b, 0, none⟩), .int .i64 (124 : Nat), .int .i64 (11 : Nat)] w fun e w' => e = .returned (.string (M.ba (M.cutL L 124 11))) ∧ w = w') := iField_any b L 124 11 w hL (by decide) (by decide) H
  have HO : Hid (Calls Tryz.prog 154 #[.string (M.ba (M.cutL L 124 11))] w fun e w' => e = .returned (.int .i64 (M.sizeL L)) ∧ w = w') := iOctR_any _ w (by
    rw [M.ba_size]; unfold M.cutL maxLen; rw [List.length_take]; omega)
  clear H
  go_enter Tryz.func116, Tryz.ntmps116
  go_wp2_with fail
  refine HF.out.mono ?_
  rintro e w1 ⟨rfl, rfl⟩
  go_wp2_with fail
  refine HO.out.mono ?_
  rintro e w1 ⟨rfl, rfl⟩
  go_wp2
  go_ret
  exact ⟨rfl, rfl⟩

set_option maxRecDepth 100000 in
set_option maxHeartbeats 400000 in
theorem iHName_any (b : Nat) (L : List UInt8) (w : World) (hL : L.length = 512) (H : M.Arr w b 113 L) (hm : M.ml w) :
    Calls Tryz.prog 122 #[.pointer (some ⟨b, 0, none⟩)] w fun e w' => e = .returned (.string (M.ba (M.textL (M.cutL L 0 100)))) ∧ ∃ n, w' = w.drewN n := by
  have HF : Hid (Calls Tryz.prog 114 #[.pointer (some ⟨b, 0, none⟩), .int .i64 (0 : Nat), .int .i64 (100 : Nat)] w fun e w' => e = .returned (.string (M.ba (M.cutL L 0 100))) ∧ w = w') := iField_any b L 0 100 w hL (by decide) (by decide) H
  obtain ⟨mm, hmm⟩ := hm
  have hC := Tryz.strings_Cut (M.ba (M.cutL L 0 100)) ⟨#[0]⟩ mm w (by rw [M.ba_size]; unfold M.cutL; rw [List.length_take]; omega) hmm
  rw [show ((⟨#[0]⟩ : ByteArray)).data.toList = [0] from rfl, M.ba_list, M.cut_text] at hC
  have HC : Hid (Calls Tryz.prog 120 #[.string (M.ba (M.cutL L 0 100)), .string ⟨#[0]⟩] w fun e w' => ∃ y z, e = .returned (.tuple #[.string (M.ba (M.textL (M.cutL L 0 100))), .string y, .bool z]) ∧ ∃ n, w' = w.drewN n) := hC.mono fun e w' h => ⟨_, _, h.1, h.2⟩
  clear H hC hmm
  go_enter Tryz.func122, Tryz.ntmps122
  go_wp2_with fail
  refine HF.out.mono ?_
  rintro e w1 ⟨rfl, rfl⟩
  go_wp2_with fail
  refine HC.out.mono ?_
  rintro e w1 ⟨y, z, rfl, n, rfl⟩
  go_wp2
  go_ret
  exact ⟨rfl, n, rfl⟩
end Go.Proofs.YtephjmlcbpfnaaaGreatDoor
