/-
  What l06Crc and PacketRight of the specification do.
-/
import Derived.Test.YtgppdhfhcnkfpaaPart3
import Derived.Test.YtgppdhfhcnkfpaaPart5
import Derived.Test.YtgppdhfhcnkfpaaSCrcOne
import Derived.Test.YtgppdhfhcnkfpaaSIs
import Derived.Test.YtgppdhfhcnkfpaaLinkBox
import Derived.Test.YtgppdhfhcnkfpaaWide
import Derived.Lib.Strings
namespace Go.Proofs.Ytgppdhfhcnkfpaa
open Go.RowKit

set_option maxRecDepth 100000 in
set_option maxHeartbeats 1600000 in
theorem sCrc6_any (q : Int) (l : Bool) (s : ByteArray) (c : Int) (w : World) (h1 : -9223372036854775808 ≤ q) (h2 : q ≤ 9223372036854775807) (hs : s.size ≤ 100000000) :
    Calls Try.prog 66 #[.agg #[.int .i64 q, .bool l, .string s, .int .i64 c]] w fun e w' => e = .returned (.int .i64 (M.pcrc q l s)) ∧ Below w.heap.size w w' := by
  have hn1 := M.num_size q
  have hn2 := M.num_size (M.lastN l)
  have CN : Hid (∀ W (z : Int), z = q ∨ z = M.lastN l → Calls Try.prog 75 #[.int .i64 z] W fun e w' => e = .returned (.string (M.num z)) ∧ Below W.heap.size W w') := fun W z hz => sPutNum_any z W (by have := M.lastN_or l; omega) (by have := M.lastN_or l; omega)
  have C5 : Hid (∀ W, Calls Try.prog 74 #[.string (M.num q ++ M.num (M.lastN l) ++ s)] W fun e w' => e = .returned (.int .i64 (M.pcrc q l s)) ∧ Below W.heap.size W w') := fun W => (sCrcT_any _ W (by rw [ByteArray.size_append, ByteArray.size_append]; unfold maxLen; omega)).mono (by rintro e w' ⟨rfl, rfl⟩; exact ⟨rfl, Below.refl _ _⟩)
  have had1 := fun W => run_string_add_sum (P := Try.prog) (w := W) (M.num q) (M.num (M.lastN l)) (by omega)
  have had2 := fun W => run_string_add_sum (P := Try.prog) (w := W) (M.num q ++ M.num (M.lastN l)) s (by rw [ByteArray.size_append]; omega)
  generalize M.pcrc q l s = r at C5
  have CX : Hid (∀ o, ∀ y : M.Wd (w.alloc o), Below w.heap.size w y.val) := fun o y => M.bxd_below y.bel
  have m0 : ∀ (b : Bool) (y : M.Wd (w.alloc (.cells #[.int .i64 q, .bool b, .string s, .int .i64 c] 29))), y.val.cell? ⟨w.heap.size, 0, none⟩ = some (.int .i64 q) := fun b y => M.bxd y.bel 0 _ rfl
  have m2 : ∀ (b : Bool) (y : M.Wd (w.alloc (.cells #[.int .i64 q, .bool b, .string s, .int .i64 c] 29))), y.val.cell? ⟨w.heap.size, 2, none⟩ = some (.string s) := fun b y => M.bxd y.bel 2 _ rfl
  clear h1 h2
  cases l
  all_goals
    unfold M.lastN at CN C5 had1 had2 hn2
    simp only [Bool.false_eq_true, if_false, if_true] at CN C5 had1 had2 hn2
    go_enter Try.func66, Try.ntmps66
    go_wp2_with fail
    refine M.wp_region_wd (by kernel_rfl) (by kernel_rfl) (fun _ => ?_)
    repeat (first | go_big_quiet_skip | (go_big_quiet_want; go_big_quiet_op; first | go_big_quiet_on | (apply Exists.intro; refine ⟨fun x => ?_, ?_⟩; (first | exact M.Wd.call x (CN.out x.val _ (.inl rfl)) | exact M.Wd.call x (CN.out x.val _ (.inr rfl)) | exact M.Wd.call x (C5.out x.val)); go_big_quiet_on)))
    refine wpQuiet_nil ?_
    intro w9 hw'
    have HB9 : Hid (Below w.heap.size w w9) := by obtain ⟨x, rfl⟩ := hw'; exact CX.out _ x
    clear hw'
    go_wp2
    go_ret
    exact ⟨rfl, HB9.out⟩

set_option maxRecDepth 100000 in
set_option maxHeartbeats 1600000 in
theorem sPktR_any (q : Int) (l : Bool) (s : ByteArray) (c : Int) (w : World) (h1 : -9223372036854775808 ≤ q) (h2 : q ≤ 9223372036854775807) (hs : s.size ≤ 100000000) :
    Calls Try.prog 34 #[.agg #[.int .i64 q, .bool l, .string s, .int .i64 c]] w fun e w' => e = .returned (.bool (M.pktR q l s c)) ∧ Below w.heap.size w w' := by
  have CX : Hid (∀ o, ∀ y : M.Wd (w.alloc o), Below w.heap.size w y.val) := fun o y => M.bxd_below y.bel
  have CI : Hid (∀ W, Calls Try.prog 64 #[.int .i64 q, .int .i64 0, .int .i64 299] W fun e w' => e = .returned (.bool (decide (0 ≤ q ∧ q ≤ 299))) ∧ Below W.heap.size W w') := fun W => (sIs_any q 0 299 W).mono (by rintro e w' ⟨rfl, rfl⟩; exact ⟨rfl, Below.refl _ _⟩)
  have CC : Hid (∀ W, Calls Try.prog 66 #[.agg #[.int .i64 q, .bool l, .string s, .int .i64 c]] W fun e w' => e = .returned (.int .i64 (M.pcrc q l s)) ∧ Below W.heap.size W w') := fun W => sCrc6_any q l s c W h1 h2 hs
  have m0 : ∀ (y : M.Wd (w.alloc (.cells #[.int .i64 q, .bool l, .string s, .int .i64 c] 29))), y.val.cell? ⟨w.heap.size, 0, none⟩ = some (.int .i64 q) := fun y => M.bxd y.bel 0 _ rfl
  have m1 : ∀ (y : M.Wd (w.alloc (.cells #[.int .i64 q, .bool l, .string s, .int .i64 c] 29))), y.val.cell? ⟨w.heap.size, 1, none⟩ = some (.bool l) := fun y => M.bxd y.bel 1 _ rfl
  have m2 : ∀ (y : M.Wd (w.alloc (.cells #[.int .i64 q, .bool l, .string s, .int .i64 c] 29))), y.val.cell? ⟨w.heap.size, 2, none⟩ = some (.string s) := fun y => M.bxd y.bel 2 _ rfl
  have m3 : ∀ (y : M.Wd (w.alloc (.cells #[.int .i64 q, .bool l, .string s, .int .i64 c] 29))), y.val.cell? ⟨w.heap.size, 3, none⟩ = some (.int .i64 c) := fun y => M.bxd y.bel 3 _ rfl
  unfold M.pktR
  generalize M.pcrc q l s = r at CC
  generalize decide (0 ≤ q ∧ q ≤ 299) = p at CI
  have hz : decide ((s.size : Int) ≤ 64) = decide (s.size ≤ 64) := by rw [decide_eq_decide]; omega
  generalize decide (s.size ≤ 64) = z at hz
  clear h1 h2
  cases p
  · simp only [Bool.false_and]
    go_enter Try.func34, Try.ntmps34
    go_wp2_with fail
    refine M.wp_region_wd (by kernel_rfl) (by kernel_rfl) (fun _ => ?_)
    repeat (first | go_big_quiet_skip | (go_big_quiet_want; go_big_quiet_op; first | go_big_quiet_on | (apply Exists.intro; refine ⟨fun x => ?_, ?_⟩; exact M.Wd.call x (CI.out x.val); go_big_quiet_on)))
    refine wpQuiet_nil ?_
    intro w9 hw'
    have HB9 : Hid (Below w.heap.size w w9) := by obtain ⟨x, rfl⟩ := hw'; exact CX.out _ x
    clear hw'
    go_wp2
    go_ret
    exact ⟨rfl, HB9.out⟩
  cases z
  · simp only [Bool.true_and, Bool.false_and]
    go_enter Try.func34, Try.ntmps34
    go_wp2_with fail
    refine M.wp_region_wd (by kernel_rfl) (by kernel_rfl) (fun _ => ?_)
    repeat (first | go_big_quiet_skip | (go_big_quiet_want; go_big_quiet_op; first | go_big_quiet_on | (apply Exists.intro; refine ⟨fun x => ?_, ?_⟩; exact M.Wd.call x (CI.out x.val); go_big_quiet_on)))
    refine wpQuiet_nil ?_
    intro w9 hw'
    have HB9 : Hid (Below w.heap.size w w9) := by obtain ⟨x, rfl⟩ := hw'; exact CX.out _ x
    clear hw'
    go_wp2
    go_ret
    exact ⟨rfl, HB9.out⟩
  · simp only [Bool.true_and]
    go_enter Try.func34, Try.ntmps34
    go_wp2_with fail
    refine M.wp_region_wd (by kernel_rfl) (by kernel_rfl) (fun _ => ?_)
    repeat (first | go_big_quiet_skip | (go_big_quiet_want; go_big_quiet_op; first | go_big_quiet_on | (apply Exists.intro; refine ⟨fun x => ?_, ?_⟩; (first | exact M.Wd.call x (CI.out x.val) | exact M.Wd.call x (CC.out x.val)); go_big_quiet_on)))
    refine wpQuiet_nil ?_
    intro w9 hw'
    have HB9 : Hid (Below w.heap.size w w9) := by obtain ⟨x, rfl⟩ := hw'; exact CX.out _ x
    clear hw'
    go_wp2
    go_ret
    exact ⟨rfl, HB9.out⟩
end Go.Proofs.Ytgppdhfhcnkfpaa
