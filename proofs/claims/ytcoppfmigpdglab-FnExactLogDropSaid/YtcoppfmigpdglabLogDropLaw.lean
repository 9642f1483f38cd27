/-
  LogDrop of the program answers as that of the specification, at every text and number.
-/
import Derived.Test.YtcoppfmigpdglabLogRec
import Derived.Test.YtcoppfmigpdglabIsIdW
import Derived.Test.YtcoppfmigpdglabSIs
namespace Go.Proofs.Ytcoppfmigpdglab
open Go.RowKit

/-- The log that LogDrop tells. -/
def M.logDropT (log : ByteArray) (id : Int) : ByteArray := if 20000 < log.size then ⟨#[]⟩ else if decide (1 ≤ id ∧ id ≤ 1000000) = true then M.logMore log (⟨#[88]⟩ ++ ⟨(M.enc (M.foldZ id)).toArray⟩) else log

set_option maxRecDepth 100000 in
set_option maxHeartbeats 800000 in
theorem iLogDrop_any (log : ByteArray) (id : Int) (w : World) (hs : log.size ≤ 9223372036854775807) :
    Calls Try.prog 18 #[.string log, .int .i64 id] w fun e w' => e = .returned (.string (M.logDropT log id)) ∧ Below w.heap.size w w' := by
  by_cases hl : 20000 < log.size
  · have HE : Hid (M.logDropT log id = ⟨#[]⟩) := by show _ = _; unfold M.logDropT; rw [if_pos hl]
    have d1 : decide (20000 < (log.size : Int)) = true := decide_eq_true (by omega)
    go_enter Try.func18, Try.ntmps18
    go_wp2
    go_ret
    exact ⟨by rw [HE.out]; rfl, Below.refl _ _⟩
  have d1 : decide (20000 < (log.size : Int)) = false := decide_eq_false (by omega)
  have CI : Hid (∀ W, Calls Try.prog 46 #[.int .i64 id] W fun e w' => e = .returned (.bool (decide (1 ≤ id ∧ id ≤ 1000000))) ∧ W = w') := fun W => iIsId_any id W
  cases hid : decide (1 ≤ id ∧ id ≤ 1000000)
  · have HE : Hid (M.logDropT log id = log) := by show _ = _; unfold M.logDropT; rw [if_neg hl, hid, if_neg (by simp)]
    rw [hid] at CI
    clear hid
    go_enter Try.func18, Try.ntmps18
    go_wp2_with fail
    refine (CI.out _).mono ?_
    rintro e w1 ⟨rfl, rfl⟩
    go_wp2_with fail
    refine (iCloneT_any log _ (by omega)).mono ?_
    rintro e w2 ⟨rfl, hb⟩
    have B2 := M.hl hb
    clear hb
    go_wp2
    go_ret
    exact ⟨by rw [HE.out]; rfl, B2.out⟩
  · have HE : Hid (M.logDropT log id = M.logMore log (⟨#[88]⟩ ++ ⟨(M.enc (M.foldZ id)).toArray⟩)) := by show _ = _; unfold M.logDropT; rw [if_neg hl, hid, if_pos rfl]
    have hr := of_decide_eq_true hid
    have hz := M.enc_size (M.foldZ id)
    have CP : Hid (∀ W, Calls Try.prog 47 #[.int .i64 id] W fun e w' => e = .returned (.string ⟨(M.enc (M.foldZ id)).toArray⟩) ∧ Below W.heap.size W w') := fun W => iPutNum_any id W (by omega) (by omega)
    rw [hid] at CI
    generalize (⟨(M.enc (M.foldZ id)).toArray⟩ : ByteArray) = p at CP HE hz
    have CR : Hid (∀ W, Calls Try.prog 41 #[.string log, .int .u8 88, .string p] W fun e w' => e = .returned (.string (M.logMore log (⟨#[88]⟩ ++ p))) ∧ Below W.heap.size W w') := fun W => iWithRec_any log p 88 W (by decide) (by decide) (by omega) (by omega)
    clear hid hr hz
    go_enter Try.func18, Try.ntmps18
    go_wp2_with fail
    refine (CI.out _).mono ?_
    rintro e w1 ⟨rfl, rfl⟩
    go_wp2_with fail
    refine (CP.out _).mono ?_
    rintro e w2 ⟨rfl, hb⟩
    have B2 := M.hl hb
    clear hb
    go_wp2_with fail
    refine (CR.out _).mono ?_
    rintro e w3 ⟨rfl, hb⟩
    have B3 := M.hl (M.sl B2.out hb)
    clear hb
    go_wp2
    go_ret
    exact ⟨by rw [HE.out]; rfl, B3.out⟩

set_option maxRecDepth 100000 in
set_option maxHeartbeats 800000 in
theorem sLogDrop_any (log : ByteArray) (id : Int) (w : World) (hs : log.size ≤ 9223372036854775807) :
    Calls Try.prog 17 #[.string log, .int .i64 id] w fun e w' => e = .returned (.string (M.logDropT log id)) ∧ Below w.heap.size w w' := by
  by_cases hl : 20000 < log.size
  · have HE : Hid (M.logDropT log id = ⟨#[]⟩) := by show _ = _; unfold M.logDropT; rw [if_pos hl]
    have d1 : decide (20000 < (log.size : Int)) = true := decide_eq_true (by omega)
    go_enter Try.func17, Try.ntmps17
    go_wp2
    go_ret
    exact ⟨by rw [HE.out]; rfl, Below.refl _ _⟩
  have d1 : decide (20000 < (log.size : Int)) = false := decide_eq_false (by omega)
  have CI : Hid (∀ W, Calls Try.prog 44 #[.int .i64 id, .int .i64 1, .int .i64 1000000] W fun e w' => e = .returned (.bool (decide (1 ≤ id ∧ id ≤ 1000000))) ∧ W = w') := fun W => sIs_any id 1 1000000 W
  cases hid : decide (1 ≤ id ∧ id ≤ 1000000)
  · have HE : Hid (M.logDropT log id = log) := by show _ = _; unfold M.logDropT; rw [if_neg hl, hid, if_neg (by simp)]
    rw [hid] at CI
    clear hid
    go_enter Try.func17, Try.ntmps17
    go_wp2_with fail
    refine (CI.out _).mono ?_
    rintro e w1 ⟨rfl, rfl⟩
    go_wp2
    go_ret
    exact ⟨by rw [HE.out]; rfl, Below.refl _ _⟩
  · have HE : Hid (M.logDropT log id = M.logMore log (⟨#[88]⟩ ++ ⟨(M.enc (M.foldZ id)).toArray⟩)) := by show _ = _; unfold M.logDropT; rw [if_neg hl, hid, if_pos rfl]
    have hr := of_decide_eq_true hid
    have hz := M.enc_size (M.foldZ id)
    have CP : Hid (∀ W, Calls Try.prog 45 #[.int .i64 id] W fun e w' => e = .returned (.string ⟨(M.enc (M.foldZ id)).toArray⟩) ∧ Below W.heap.size W w') := fun W => sPutNum_any id W (by omega) (by omega)
    rw [hid] at CI
    generalize (⟨(M.enc (M.foldZ id)).toArray⟩ : ByteArray) = p at CP HE hz
    have CR : Hid (∀ W, Calls Try.prog 36 #[.string log, .string (⟨#[88]⟩ ++ p)] W fun e w' => e = .returned (.string (M.logMore log (⟨#[88]⟩ ++ p))) ∧ Below W.heap.size W w') := fun W => sL08Add_any log _ W (by omega) (by rw [ByteArray.size_append]; show 1 + _ ≤ _; omega)
    have had := fun W => run_string_add_sum (P := Try.prog) (w := W) (⟨#[88]⟩ : ByteArray) p (by show 1 + _ ≤ _; omega)
    clear hid hr hz
    go_enter Try.func17, Try.ntmps17
    go_wp2_with fail
    refine (CI.out _).mono ?_
    rintro e w1 ⟨rfl, rfl⟩
    go_wp2_with fail
    refine (CP.out _).mono ?_
    rintro e w2 ⟨rfl, hb⟩
    have B2 := M.hl hb
    clear hb
    go_wp2_with fail
    refine (CR.out _).mono ?_
    rintro e w3 ⟨rfl, hb⟩
    have B3 := M.hl (M.sl B2.out hb)
    clear hb
    go_wp2
    go_ret
    exact ⟨by rw [HE.out]; rfl, B3.out⟩

set_option maxRecDepth 100000 in
set_option maxHeartbeats 800000 in
theorem fnExactLogDrop_walk (log : ByteArray) (id : Int) (w : World) (hs : log.size ≤ maxLen) (_h1 : -9223372036854775808 ≤ id) (_h2 : id ≤ 9223372036854775807) :
    Calls Try.prog 5 #[.string log, .int .i64 id] w fun e w' => e = .returned (.bool true) ∧ Below w.heap.size w w' := by
  unfold maxLen at hs
  by_cases hbig : 1048576 < log.size
  · have d1 : decide (1048576 < (log.size : Int)) = true := decide_eq_true (by omega)
    go_enter Try.func5, Try.ntmps5
    go_wp2
    go_ret
    exact ⟨rfl, Below.refl _ _⟩
  have d1 : decide (1048576 < (log.size : Int)) = false := decide_eq_false (by omega)
  have C1 : Hid (∀ W, Calls Try.prog 17 #[.string log, .int .i64 id] W fun e w' => e = .returned (.string (M.logDropT log id)) ∧ Below W.heap.size W w') := fun W => sLogDrop_any log id W (by omega)
  have C2 : Hid (∀ W, Calls Try.prog 18 #[.string log, .int .i64 id] W fun e w' => e = .returned (.string (M.logDropT log id)) ∧ Below W.heap.size W w') := fun W => iLogDrop_any log id W (by omega)
  generalize M.logDropT log id = t at C1 C2
  go_enter Try.func5, Try.ntmps5
  go_wp2_with fail
  refine (C1.out _).mono ?_
  rintro e w1 ⟨rfl, hb⟩
  have B1 := M.hl hb
  clear hb
  go_wp2_with fail
  refine (C2.out _).mono ?_
  rintro e w2 ⟨rfl, hb⟩
  have B2 := M.hl (M.sl B1.out hb)
  clear hb
  go_wp2
  go_ret
  exact ⟨rfl, B2.out⟩
end Go.Proofs.Ytcoppfmigpdglab
