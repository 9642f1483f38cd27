/-
  What packetMade of the program does.
-/
import Derived.Test.YtgppdhfhcnkfpaaPart3
import Derived.Test.YtgppdhfhcnkfpaaPart5
import Derived.Test.YtgppdhfhcnkfpaaCrcBase
import Derived.Test.YtgppdhfhcnkfpaaICopyT
import Derived.Test.YtgppdhfhcnkfpaaLinkBox
namespace Go.Proofs.Ytgppdhfhcnkfpaa
open Go.RowKit

set_option maxRecDepth 100000 in
set_option maxHeartbeats 1600000 in
theorem iMade_any (q : Int) (l : Bool) (s : ByteArray) (w : World) (h1 : -9223372036854775808 ≤ q) (h2 : q ≤ 9223372036854775807) (hs : s.size ≤ 100000000) :
    Calls Try.prog 50 #[.int .i64 q, .bool l, .string s] w fun e w' => e = .returned (.agg #[.int .i64 q, .bool l, .string s, .int .i64 (M.pcrc q l s)]) ∧ Below w.heap.size w w' := by
  have hl01 := M.lastN_or l
  have hn1 := M.num_size q
  have hn2 := M.num_size (M.lastN l)
  have C1 : Hid (∀ W, Calls Try.prog 71 #[.int .i64 q] W fun e w' => e = .returned (.string (M.num q)) ∧ Below W.heap.size W w') := fun W => iPutNum_any q W h1 h2
  have C2 : Hid (∀ W, Calls Try.prog 71 #[.int .i64 (M.lastN l)] W fun e w' => e = .returned (.string (M.num (M.lastN l))) ∧ Below W.heap.size W w') := fun W => iPutNum_any (M.lastN l) W (by omega) (by omega)
  have C5 : Hid (∀ W, Calls Try.prog 73 #[.string (M.num q ++ M.num (M.lastN l) ++ s)] W fun e w' => e = .returned (.int .i64 (M.pcrc q l s)) ∧ W = w') := fun W => iCrc_any _ W (by rw [ByteArray.size_append, ByteArray.size_append]; unfold maxLen; omega)
  generalize M.pcrc q l s = r at C5
  generalize hu : M.num (M.lastN l) = u at C2 C5 hn2
  generalize hv : M.num q = v at C1 C5 hn1
  clear hu hv
  have C3 : Hid (∀ W, Calls Try.prog 70 #[.string v, .string u] W fun e w' => e = .returned (.string (v ++ u)) ∧ Below W.heap.size W w') := fun W => joined_any v u W (by omega) (by omega)
  have hvu : (v ++ u).size ≤ 22 := by rw [ByteArray.size_append]; omega
  generalize v ++ u = g at C3 C5 hvu
  have C4 : Hid (∀ W, Calls Try.prog 70 #[.string g, .string s] W fun e w' => e = .returned (.string (g ++ s)) ∧ Below W.heap.size W w') := fun W => joined_any g s W (by omega) (by omega)
  have CK : Hid (∀ W, Calls Try.prog 72 #[.string s] W fun e w' => e = .returned (.string s) ∧ Below W.heap.size W w') := fun W => iCloneT_any s W hs
  generalize g ++ s = y at C4 C5
  have BA : Hid (∀ o, Below w.heap.size w (w.alloc o)) := fun o => (Below.refl _ _).alloc (Nat.le_refl _) _
  have FIN : Hid (∀ w1, Below (w.alloc (.cells #[.int .i64 0, .bool false, .string ⟨#[]⟩, .int .i64 0] 29)).heap.size (w.alloc (.cells #[.int .i64 0, .bool false, .string ⟨#[]⟩, .int .i64 0] 29)) w1 → w1.heap[w.heap.size]? = some (.cells #[.int .i64 0, .bool false, .string ⟨#[]⟩, .int .i64 0] 29 (0, 0))) := fun w1 hb => (hb.block w.heap.size (by simp)).trans (heap_alloc_new _ _)
  clear h1 h2 hl01
  cases l
  all_goals
    go_enter Try.func50, Try.ntmps50
    go_wp2_with fail
    refine (C1.out _).mono ?_
    rintro e w1 ⟨rfl, hb⟩
    have B1 := M.hl hb
    clear hb
    go_wp2_with fail
    refine (C2.out _).mono ?_
    rintro e w2 ⟨rfl, hb⟩
    have B2 := M.hl (M.sl B1.out hb)
    clear hb B1
    go_wp2_with fail
    refine (C3.out _).mono ?_
    rintro e w3 ⟨rfl, hb⟩
    have B3 := M.hl (M.sl B2.out hb)
    clear hb B2
    go_wp2_with fail
    refine (CK.out _).mono ?_
    rintro e w4 ⟨rfl, hb⟩
    have B4 := M.hl (M.sl B3.out hb)
    clear hb B3
    go_wp2_with fail
    refine (C4.out _).mono ?_
    rintro e w5 ⟨rfl, hb⟩
    have B5 := M.hl (M.sl B4.out hb)
    clear hb B4
    go_wp2_with fail
    refine (C5.out _).mono ?_
    rintro e w6 ⟨rfl, rfl⟩
    have u1 := FIN.out w5 B5.out
    have r0 := M.bk_cell u1 0 _ rfl
    have r1 := M.bk_cell u1 1 _ rfl
    have r2 := M.bk_cell u1 2 _ rfl
    have r3 := M.bk_cell u1 3 _ rfl
    have fr := M.bk_free u1
    clear u1
    go_wp2
  · refine bodyPost_ret (v := .agg #[.int .i64 q, .bool false, .string s, .int .i64 r]) (by simp [results, Try.results50, go_sem, r0, r1, r2, r3]) rfl ⟨rfl, ?_⟩
    exact ((((M.bxd_below B5.out).setCell (by simp) _).setCell (by simp) _).setCell (by simp) _).setCell (by simp) _
  · refine bodyPost_ret (v := .agg #[.int .i64 q, .bool true, .string s, .int .i64 r]) (by simp [results, Try.results50, go_sem, r0, r1, r2, r3]) rfl ⟨rfl, ?_⟩
    exact ((((M.bxd_below B5.out).setCell (by simp) _).setCell (by simp) _).setCell (by simp) _).setCell (by simp) _
end Go.Proofs.Ytgppdhfhcnkfpaa
