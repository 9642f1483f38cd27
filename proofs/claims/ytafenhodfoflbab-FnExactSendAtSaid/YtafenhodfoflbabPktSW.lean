/-
  What the laws' helpers on packets do: szPacket, toPacket, eqPacket.
-/
import Derived.Test.YtafenhodfoflbabRows
import Derived.Test.YtafenhodfoflbabPofMath
import Derived.Test.YtafenhodfoflbabLinkBox
import Derived.WalkSpells
import Derived.WalkLawsBesides
namespace Go.Proofs.Ytafenhodfoflbab
open Go.RowKit

set_option maxHeartbeats 400000 in
theorem szPkt_any (q : Int) (l : Bool) (s : ByteArray) (c : Int) (w : World) (hs : s.size ≤ maxLen) :
    Calls Try.prog 28 #[.agg #[.int .i64 q, .bool l, .string s, .int .i64 c], .int .i64 1048576] w fun e w' => ∃ v : Int, e = .returned (.int .i64 v) ∧ v ≤ 1048576 ∧ (0 ≤ v → (s.size : Int) ≤ 1048576) ∧ Below w.heap.size w w' := by
  have HB : Hid (∀ o, Below w.heap.size w (w.alloc o)) := fun o => (Below.refl _ _).alloc (Nat.le_refl _) _
  unfold maxLen at hs
  by_cases hl : (1048576 : Int) - s.size < 0
  · go_enter Try.func28, Try.ntmps28
    go_wp2
    go_ret
    exact ⟨-1, rfl, by omega, fun h => by omega, HB.out _⟩
  · go_enter Try.func28, Try.ntmps28
    go_wp2
    go_ret
    exact ⟨_, rfl, by omega, fun _ => by omega, HB.out _⟩

set_option maxRecDepth 100000 in
set_option maxHeartbeats 800000 in
theorem toPkt_any (q : Int) (l : Bool) (s : ByteArray) (c : Int) (w : World) :
    Calls Try.prog 30 #[.agg #[.int .i64 q, .bool l, .string s, .int .i64 c]] w fun e w' => e = .returned (.agg #[.int .i64 q, .bool l, .string s, .int .i64 c]) ∧ Below w.heap.size w w' := by
  go_enter Try.func30, Try.ntmps30
  go_wp2
  refine bodyPost_ret (v := .agg #[.int .i64 q, .bool l, .string s, .int .i64 c]) (by simp [results, Try.results30, go_sem]) rfl ⟨rfl, ?_⟩
  exact (((Below.refl _ _).alloc (Nat.le_refl _) _).alloc (by simp) _).alloc (by simp; omega) _

set_option maxRecDepth 100000 in
set_option maxHeartbeats 800000 in
theorem eqPkt_same (q : Int) (l : Bool) (s : ByteArray) (c : Int) (w : World) :
    Calls Try.prog 62 #[.agg #[.int .i64 q, .bool l, .string s, .int .i64 c], .agg #[.int .i64 q, .bool l, .string s, .int .i64 c]] w fun e w' => e = .returned (.bool true) ∧ Below w.heap.size w w' := by
  have FIN : Hid (∀ o1 o2, Below w.heap.size w ((w.alloc o1).alloc o2)) := fun o1 o2 => ((Below.refl _ _).alloc (Nat.le_refl _) _).alloc (by simp) _
  have dd : (s.toList == s.toList) = true := by simp
  have dl : (l == l) = true := by simp
  have dl' : (l != l) = false := by simp
  go_enter Try.func62, Try.ntmps62
  go_wp2
  go_ret
  exact ⟨rfl, FIN.out _ _⟩
end Go.Proofs.Ytafenhodfoflbab
