/-
  What Seal of the program and of the specification do.
-/
import Derived.Test.YtcoppfmigpdglabCrcBase
import Derived.Test.YtcoppfmigpdglabJoinedWalk
namespace Go.Proofs.Ytcoppfmigpdglab
open Go.RowKit

theorem Try.make4 (w : World) : (Instr.makeSlice 87 (.int .i64 4) (.int .i64 4)).run Try.prog w = .ok (.slice (some ⟨w.heap.size, 0, none⟩) 4 4) (w.alloc (.cells #[.int .u8 0, .int .u8 0, .int .u8 0, .int .u8 0] 5)) := by kernel_rfl

set_option maxRecDepth 100000 in
set_option maxHeartbeats 800000 in
theorem sFour_any (n : Int) (w : World) (h0 : 0 ≤ n) (h9 : n ≤ 4294967295) :
    Calls Try.prog 89 #[.int .i64 n] w fun e w' => e = .returned (.string ⟨(M.four n).toArray⟩) ∧ Below w.heap.size w w' := by
  have hcv := M.conv_four (P := Try.prog) w 87 9 5 (n % 256) (n / 256 % 256) (n / 65536 % 256) (n / 16777216) (by omega) (by omega) (by omega) (by omega) Try.underlying87 Try.underlying5 Try.underlying9
  go_enter Try.func89, Try.ntmps89
  go_wp2
  go_ret
  exact ⟨rfl, (Below.refl _ _).alloc (Nat.le_refl _) _⟩

set_option maxRecDepth 100000 in
set_option maxHeartbeats 800000 in
theorem sumOf_any (s : ByteArray) (w : World) (hs : s.size ≤ maxLen) (h0 : 0 ≤ M.crcMore 0 s) (h9 : M.crcMore 0 s ≤ 4294967295) :
    Calls Try.prog 94 #[.string s] w fun e w' => e = .returned (.string ⟨(M.four (M.crcMore 0 s)).toArray⟩) ∧ Below w.heap.size w w' := by
  have hmk := Try.make4
  have hK := fun W => iCrc_any s W hs
  revert hK h0 h9
  generalize M.crcMore 0 s = n
  intro h0 h9 hK
  have HK : Hid _ := hK
  clear hK
  have hcv := M.conv_four (P := Try.prog) w 87 9 5 (n % 256) (n / 256 % 256) (n / 65536 % 256) (n / 16777216) (by omega) (by omega) (by omega) (by omega) Try.underlying87 Try.underlying5 Try.underlying9
  go_enter Try.func94, Try.ntmps94
  go_wp2_with (go_at_call 103; refine (HK.out _).mono ?_; rintro e w' ⟨rfl, rfl⟩)
  refine wp_loop_rounds 5 ?_
  rw [rounds_succ]; go_wp2
  rw [rounds_succ]; go_wp2
  rw [rounds_succ]; go_wp2
  rw [rounds_succ]; go_wp2
  rw [rounds_succ]; go_wp2
  go_ret
  exact ⟨rfl, (Below.refl _ _).alloc (Nat.le_refl _) _⟩

/-- Seal. -/
def M.sealT (s : ByteArray) : ByteArray := if 19996 < s.size then ⟨#[]⟩ else s ++ ⟨(M.four (M.crcMore 0 s)).toArray⟩
theorem M.sealT_big {s : ByteArray} (h : 19996 < s.size) : M.sealT s = ⟨#[]⟩ := by unfold M.sealT; rw [if_pos h]
theorem M.sealT_small {s : ByteArray} (h : ¬ 19996 < s.size) : M.sealT s = s ++ ⟨(M.four (M.crcMore 0 s)).toArray⟩ := by unfold M.sealT; rw [if_neg h]

set_option maxRecDepth 100000 in
set_option maxHeartbeats 800000 in
theorem iSeal_any (s : ByteArray) (w : World) (hs : s.size ≤ maxLen) :
    Calls Try.prog 71 #[.string s] w fun e w' => e = .returned (.string (M.sealT s)) ∧ Below w.heap.size w w' := by
  have hs' := hs
  unfold maxLen at hs'
  by_cases h : 19996 < s.size
  · have hE : Hid (M.sealT s = ⟨#[]⟩) := M.sealT_big h
    go_enter Try.func71, Try.ntmps71
    go_wp2
    go_ret
    exact ⟨by rw [hE.out]; rfl, Below.refl _ _⟩
  · have hE : Hid (M.sealT s = s ++ ⟨(M.four (M.crcMore 0 s)).toArray⟩) := M.sealT_small h
    obtain ⟨h0, h9⟩ := M.crcMore_range s
    have H4 : Hid ((⟨(M.four (M.crcMore 0 s)).toArray⟩ : ByteArray).size = 4) := M.four_size (M.crcMore 0 s)
    go_enter Try.func71, Try.ntmps71
    go_wp2_with (first | (go_at_call 94; refine (sumOf_any s _ hs h0 h9).mono ?_; rintro e w1 ⟨rfl, hb1⟩) | (go_at_call 72; refine (joined_any _ _ _ (by omega) (by rw [H4.out]; omega)).mono ?_; rintro e w2 ⟨rfl, hb2⟩))
    go_ret
    exact ⟨by rw [hE.out]; rfl, hb1.trans (hb2.mono hb1.size)⟩

end Go.Proofs.Ytcoppfmigpdglab
