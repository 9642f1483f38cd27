/-
  What HeaderSum of the program does.
-/
import Derived.Test.YtbmbcfnlpbbapahIHFrom
import Derived.Test.YtbmbcfnlpbbapahISum
namespace Go.Proofs.Ytbmbcfnlpbbapah
open Go.RowKit

set_option maxRecDepth 100000 in
set_option maxHeartbeats 800000 in
theorem iHSum_any (s : ByteArray) (w : World) :
    Calls Try.prog 8 #[.string s] w fun e w' => e = .returned (.int .i64 (if s.size = 512 then (M.sumH s : Int) else -1)) ∧ Below w.heap.size w w' := by
  by_cases h : s.size = 512
  · rw [if_pos h]
    have hz := (zero_of_info Try.infoH).1
    have HF : Hid (Calls Try.prog 10 #[.string s] w fun e w' => e = .returned (.agg (s.data.toList.map M.u8).toArray) ∧ Below w.heap.size w w') := iHFrom_any s w h
    have hl : Hid (s.data.toList.length = 512) := by show _ = _; rw [← Lib.size_eq]; exact h
    have d1 : ((s.size : Int) != 512) = false := by rw [bne_eq_false_iff_eq]; omega
    clear h
    go_enter Try.func8, Try.ntmps8
    go_wp2_with fail
    refine HF.out.mono ?_
    rintro e w1 ⟨rfl, hb⟩
    obtain ⟨W3, hst, H3, hB3⟩ := M.Arr.store (P := Try.prog) (M.arr_made w1 25 (List.replicate 512 0)) s.data.toList (by rw [List.length_replicate]; exact hl.out.symm)
    have HB3 : Hid (Below w.heap.size w W3) := hB3 _ _ hb.size (hb.alloc hb.size _)
    have hst' : (storeCells ⟨w1.heap.size, 0, none⟩ (s.data.toList.map M.u8)).run Try.prog (w1.alloc (.cells M.zer 25)) = .ok () W3 := hst
    have HS : Hid (Calls Try.prog 11 #[.pointer (some ⟨w1.heap.size, 0, none⟩)] W3 fun e w' => e = .returned (.int .i64 (M.sumH ⟨s.data.toList.toArray⟩)) ∧ ∃ n, w' = W3.drewN n) := iSum_any _ _ _ hl.out H3.row
    clear hst hB3 hb H3
    go_wp2_with fail
    refine HS.out.mono ?_
    rintro e w2 ⟨rfl, n, rfl⟩
    go_wp2
    go_ret
    exact ⟨rfl, below_drewN HB3.out n⟩
  · rw [if_neg h]
    have d1 : ((s.size : Int) != 512) = true := by rw [bne_iff_ne]; omega
    clear h
    go_enter Try.func8, Try.ntmps8
    go_wp2
    go_ret
    exact ⟨rfl, Below.refl _ _⟩

end Go.Proofs.Ytbmbcfnlpbbapah
