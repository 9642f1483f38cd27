/-
  What HeaderOf of the program does.
-/
import Derived.Test.YtbmbcfnlpbbapahDoorIHeadYes
namespace Go.Proofs.YtbmbcfnlpbbapahDoor
open Go.RowKit

theorem iHeadOf_any (name : ByteArray) (size mode time kind : Int) (w : World) (hn : name.size ≤ maxLen) (s1 : -9223372036854775808 ≤ size) (s2 : size ≤ 9223372036854775807) (m1 : -9223372036854775808 ≤ mode) (m2 : mode ≤ 9223372036854775807)
    (t1 : -9223372036854775808 ≤ time) (t2 : time ≤ 9223372036854775807) (ht : M.tz w) :
    Calls Tryd.prog 9 #[.string name, .int .i64 size, .int .i64 mode, .int .i64 time, .int .i64 kind] w fun e w' => e = .returned (.string (M.headerOf name size mode time kind)) ∧ Below w.heap.size w w' := by
  by_cases h : name.size ≤ 100 ∧ (0 ≤ size ∧ size ≤ 8589934591) ∧ (0 ≤ mode ∧ mode ≤ 2097151) ∧ (0 ≤ time ∧ time ≤ 8589934591) ∧ (0 ≤ kind ∧ kind ≤ 255)
  · have hE : M.headerOf name size mode time kind = M.head name size.toNat mode.toNat time.toNat kind.toNat := by unfold M.headerOf; rw [if_pos h]
    rw [hE]
    have := iHeadOf_yes name size.toNat mode.toNat time.toNat kind.toNat w h.1 (by omega) (by omega) (by omega) (by omega) ht
    rwa [Int.toNat_of_nonneg h.2.1.1, Int.toNat_of_nonneg h.2.2.1.1, Int.toNat_of_nonneg h.2.2.2.1.1, Int.toNat_of_nonneg h.2.2.2.2.1] at this
  · rw [M.headerOf_no h]
    exact iHeadOf_no name size mode time kind w hn s1 s2 m1 m2 t1 t2 ht h

end Go.Proofs.YtbmbcfnlpbbapahDoor
