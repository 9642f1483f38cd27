/-
  HeaderSum of the program, and that it answers as that of the specification.
-/
import Derived.Test.YtjmgmpflpdfbiaaIHFrom
import Derived.Test.YtjmgmpflpdfbiaaISum
import Derived.Test.YtjmgmpflpdfbiaaSHSum
namespace Go.Proofs.Ytjmgmpflpdfbiaa
open Go.RowKit

set_option maxRecDepth 100000 in
set_option maxHeartbeats 800000 in
theorem iHSum_any (s : ByteArray) (w : World) :
    Calls Try.prog 8 #[.string s] w fun e w' => e = .returned (.int .i64 (if s.size = 512 then (M.sumH s : Int) else -1)) ∧ Below w.heap.size w w' := by
  by_cases h : s.size = 512
  · rw [if_pos h]
    have hz := (zero_of_info Try.infoH).1
    have HF : Hid (Calls Try.prog 10 #[.string s] w fun e w' => e = .returned (.agg (s.data.toList.map M.u8).toArray) ∧ Below w.heap.size w w') := iHFrom_any s w h
    have hl : Hid (s.data.toList.length = 512) := by show _ = _; rw [← Lib.size_eq]; exact h
    have d1 : ((s.size : Int) != 512) = false := by rw [bne_eq_false_iff_eq]; omega
    clear h
    go_enter Try.func8, Try.ntmps8
    go_wp2_with fail
    refine HF.out.mono ?_
    rintro e w1 ⟨rfl, hb⟩
    obtain ⟨W3, hst, H3, hB3⟩ := M.Arr.store (P := Try.prog) (M.arr_made w1 25 (List.replicate 512 0)) s.data.toList (by rw [List.length_replicate]; exact hl.out.symm)
    have HB3 : Hid (Below w.heap.size w W3) := hB3 _ _ hb.size (hb.alloc hb.size _)
    have hst' : (storeCells ⟨w1.heap.size, 0, none⟩ (s.data.toList.map M.u8)).run Try.prog (w1.alloc (.cells M.zer 25)) = .ok () W3 := hst
    have HS : Hid (Calls Try.prog 11 #[.pointer (some ⟨w1.heap.size, 0, none⟩)] W3 fun e w' => e = .returned (.int .i64 (M.sumH ⟨s.data.toList.toArray⟩)) ∧ ∃ n, w' = W3.drewN n) := iSum_any _ _ _ hl.out H3.row
    clear hst hB3 hb H3
    go_wp2_with fail
    refine HS.out.mono ?_
    rintro e w2 ⟨rfl, n, rfl⟩
    go_wp2
    go_ret
    exact ⟨rfl, below_drewN HB3.out n⟩
  · rw [if_neg h]
    have d1 : ((s.size : Int) != 512) = true := by rw [bne_iff_ne]; omega
    clear h
    go_enter Try.func8, Try.ntmps8
    go_wp2
    go_ret
    exact ⟨rfl, Below.refl _ _⟩

set_option maxHeartbeats 400000 in
theorem fnExactHeaderSum_walk (s : ByteArray) (w : World) (hs : s.size ≤ maxLen) :
    Calls Try.prog 4 #[.string s] w fun e w' => e = .returned (.bool true) ∧ Below w.heap.size w w' := by
  have hs' := hs
  unfold maxLen at hs'
  by_cases h : 1048576 < s.size
  · go_enter Try.func4, Try.ntmps4
    go_wp2
    go_ret
    exact ⟨rfl, Below.refl _ _⟩
  · obtain ⟨b, hb⟩ : ∃ b, (if s.size = 512 then (M.sumH s : Int) else -1) = b := ⟨_, rfl⟩
    have h1 : Hid (∀ W, Calls Try.prog 7 #[.string s] W fun e w' => e = .returned (.int .i64 b) ∧ W = w') := fun W => by have := sHSum_any s W; rwa [hb] at this
    have h2 : Hid (∀ W, Calls Try.prog 8 #[.string s] W fun e w' => e = .returned (.int .i64 b) ∧ Below W.heap.size W w') := fun W => by have := iHSum_any s W; rwa [hb] at this
    clear hb
    go_enter Try.func4, Try.ntmps4
    go_wp2_with (first | (go_at_call 7; refine (h1.out _).mono ?_; rintro e w1 ⟨rfl, rfl⟩) | (go_at_call 8; refine (h2.out _).mono ?_; rintro e w2 ⟨rfl, hbb⟩))
    go_ret
    exact ⟨rfl, hbb⟩
end Go.Proofs.Ytjmgmpflpdfbiaa
