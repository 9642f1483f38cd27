/-
  The draws of promise 2.
-/
import Derived.Test.YtbmbcfnlpbbapaaDoorDrawWalks
import Derived.Test.YtbmbcfnlpbbapaaDoorCrcSpec
namespace Go.Proofs.YtbmbcfnlpbbapaaDoor
open Go.RowKit

set_option maxRecDepth 100000 in
set_option maxHeartbeats 800000 in
theorem drawSeal_any (w : World) (a : Option Addr) (len cap : Nat) (hR : M.IsRow w a len cap) :
    Calls Tryd.prog 15 #[.slice a len cap] w fun e w' => ∃ s : ByteArray, e = .returned (.string s) ∧ s.size ≤ 19997 ∧ Below w.heap.size w w' := by
  obtain ⟨i0, hi, hz0, hz1, hz2⟩ := info_parts Tryd.infoB
  have HR : Hid (M.IsRow w a len cap) := hR
  clear hR
  go_enter Tryd.func15, Tryd.ntmps15
  go_wp2_with fail
  refine (source_any _ a len cap HR.out).mono ?_
  rintro e w1 ⟨rfl, hS, hb⟩
  have HS1 : Hid (M.Src w.heap.size a len cap w1) := hS
  have HB : Hid (Below w.heap.size w w1) := hb
  clear hS hb
  go_wp2_with fail
  refine (src_one _ _ len cap a 30 HS1.out (by omega)).mono ?_
  rintro e w2 ⟨v, rfl, hS, hg⟩
  have HS2 : Hid (M.Src w.heap.size a len cap w2) := hS
  have HB2 : Hid (Below w.heap.size w w2) := HB.out.grown hg HB.out.size (fun k hk => by have := Option.some.inj hk; omega)
  clear hS hg
  cases v
  · go_wp2_with fail
    refine (src_n _ _ len cap a 20 HS2.out (by omega)).mono ?_
    rintro e w3 ⟨v, rfl, h0, h1, h2, hS, hg⟩
    have h20 := h1 (by omega)
    obtain ⟨v, rfl⟩ := Int.eq_ofNat_of_zero_le h0
    have HS3 : Hid (M.Src w.heap.size a len cap w3) := hS
    have HB3 : Hid (Below w.heap.size w w3) := HB2.out.grown hg HB2.out.size (fun k hk => by have := Option.some.inj hk; omega)
    clear hS hg h1 h2
    go_wp2_with fail
    refine (src_bytes _ _ len cap a v HS3.out (by omega)).mono ?_
    rintro e w4 ⟨l, rfl, hl, hS, hg⟩
    have HB4 : Hid (Below w.heap.size w w4) := HB3.out.grown hg HB3.out.size (fun k hk => by have := Option.some.inj hk; omega)
    have HL : Hid (l.length = v) := hl
    clear hS hg hl
    go_wp2
    go_ret
    refine ⟨_, rfl, ?_, HB4.out⟩
    have := HL.out
    rw [Lib.size_eq]; simp; omega
  · go_wp2_with fail
    refine (src_n _ _ len cap a 3 HS2.out (by omega)).mono ?_
    rintro e w3 ⟨v, rfl, h0, h1, h2, hS, hg⟩
    have h3 := h1 (by omega)
    obtain ⟨v, rfl⟩ := Int.eq_ofNat_of_zero_le h0
    have HB3 : Hid (Below w.heap.size w w3) := HB2.out.grown hg HB2.out.size (fun k hk => by have := Option.some.inj hk; omega)
    clear hS hg h1 h2
    go_wp2_with (at_make; refine wpList_make_full _ rfl (.tmp 10) (.tmp 10) 22 rfl w3.heap.size 5 i0 (.int .u8 0) 1 Tryd.underlying22 hi hz0 hz1 .i64 .i64 _ _ (19995 + v) rfl rfl ?c1 ?c2 ?c3 ?c4 ?c5 ?_)
    case c1 => omega
    case c2 => omega
    case c3 => rw [hz2]; omega
    case c4 => unfold maxLen; omega
    case c5 => exact Nat.le_refl _
    intro w4 hown hgrow
    have hcv := M.zeros_conv Tryd.underlying22 Tryd.underlying5 Tryd.underlying9 hown
    have HB4 : Hid (Below w.heap.size w w4) := HB3.out.grown hgrow HB3.out.size (fun k hk => by simp at hk)
    clear hown hgrow
    go_wp2
    go_ret
    refine ⟨_, rfl, ?_, HB4.out⟩
    rw [Lib.size_eq]; simp; omega

/-- A number from 0 to below most (0, if most is not above 1). -/
def M.DrawIn (v most : Int) : Prop := 0 ≤ v ∧ (1 < most → v < most) ∧ (most ≤ 1 → v = 0)

set_option maxRecDepth 100000 in
set_option maxHeartbeats 800000 in
theorem lwAt_any (w : World) (a : Option Addr) (len cap : Nat) (t : Nat) (most : Int) (hR : M.IsRow w a len cap) (ht : t ≤ 1000) (hm9 : most ≤ 9223372036854775807) :
    Calls Tryd.prog 18 #[.slice a len cap, .int .i64 t, .int .i64 most] w fun e w' => ∃ v : Int, e = .returned (.int .i64 v) ∧ M.DrawIn v most ∧ w = w' := by
  have hl := hR.len_le
  by_cases hm : most ≤ 1
  · have d1 : decide (most ≤ 1) = true := decide_eq_true hm
    clear hR
    go_enter Tryd.func18, Tryd.ntmps18
    go_wp2
    go_ret
    exact ⟨0, rfl, ⟨by omega, fun h => by omega, fun _ => rfl⟩, rfl⟩
  have d1 : decide (most ≤ 1) = false := decide_eq_false hm
  by_cases h0 : len = 0
  · have d2 : ((len : Int) == 0) = true := beq_iff_eq.2 (by omega)
    clear hR h0
    go_enter Tryd.func18, Tryd.ntmps18
    go_wp2
    go_ret
    exact ⟨0, rfl, ⟨by omega, fun h => by omega, fun _ => rfl⟩, rfl⟩
  · have d2 : ((len : Int) == 0) = false := beq_eq_false_iff_ne.2 (by omega)
    have hlp : 0 < len := by omega
    obtain ⟨b, off, rfl, hz⟩ := hR.2.2 hlp
    have hml : t % len < len := Nat.mod_lt _ hlp
    obtain ⟨z, hz0, hz9, cz⟩ := hz (t % len) hml
    have hmi : ((t : Int) % (len : Int)) = ((t % len : Nat) : Int) := by simp
    clear hR hz h0
    obtain ⟨k, hk⟩ : ∃ k, k = t % len := ⟨_, rfl⟩
    rw [← hk] at hml cz hmi
    clear hk
    go_enter Tryd.func18, Tryd.ntmps18
    go_wp2
    go_ret
    exact ⟨_, rfl, ⟨Int.emod_nonneg _ (by omega), fun _ => Int.emod_lt_of_pos _ (by omega), fun h => by omega⟩, rfl⟩

set_option maxRecDepth 100000 in
set_option maxHeartbeats 1600000 in
theorem drawCrcMore_any (w : World) (a : Option Addr) (len cap : Nat) (hR : M.IsRow w a len cap) :
    Calls Tryd.prog 20 #[.slice a len cap] w fun e w' => ∃ (v : Int) (s : ByteArray), e = .returned (.tuple #[.int .i64 v, .string s]) ∧ -9223372036854775808 ≤ v ∧ v ≤ 9223372036854775807 ∧ s.size ≤ 8 ∧ Below w.heap.size w w' := by
  have HR : Hid (M.IsRow w a len cap) := hR
  clear hR
  go_enter Tryd.func20, Tryd.ntmps20
  go_wp2_with fail
  refine (source_any _ a len cap HR.out).mono ?_
  rintro e w1 ⟨rfl, hS, hb⟩
  have HS1 : Hid (M.Src w.heap.size a len cap w1) := hS
  have HB : Hid (Below w.heap.size w w1) := hb
  clear hS hb
  go_wp2_with fail
  refine (src_n _ _ len cap a 9 HS1.out (by omega)).mono ?_
  rintro e w2 ⟨v, rfl, h0, h1, h2, hS, hg⟩
  have h9 := h1 (by omega)
  obtain ⟨v, rfl⟩ := Int.eq_ofNat_of_zero_le h0
  have HS2 : Hid (M.Src w.heap.size a len cap w2) := hS
  have HB2 : Hid (Below w.heap.size w w2) := HB.out.grown hg HB.out.size (fun k hk => by have := Option.some.inj hk; omega)
  clear hS hg h1 h2
  go_wp2_with fail
  refine (src_bytes _ _ len cap a v HS2.out (by omega)).mono ?_
  rintro e w3 ⟨l, rfl, hl, hS, hg⟩
  have HS3 : Hid (M.Src w.heap.size a len cap w3) := hS
  have HB3 : Hid (Below w.heap.size w w3) := HB2.out.grown hg HB2.out.size (fun k hk => by have := Option.some.inj hk; omega)
  have hsz : (⟨l.toArray⟩ : ByteArray).size ≤ 8 := by rw [Lib.size_eq]; simp; omega
  clear hS hg hl
  generalize (⟨l.toArray⟩ : ByteArray) = T at hsz
  have HZ : Hid (T.size ≤ 8) := hsz
  clear hsz
  go_wp2_with fail
  refine (src_one _ _ len cap a 5 HS3.out (by omega)).mono ?_
  rintro e w4 ⟨v1, rfl, hS, hg⟩
  have HS4 : Hid (M.Src w.heap.size a len cap w4) := hS
  have HB4 : Hid (Below w.heap.size w w4) := HB3.out.grown hg HB3.out.size (fun k hk => by have := Option.some.inj hk; omega)
  clear hS hg
  cases v1
  · go_wp2_with fail
    refine (src_n _ _ len cap a 9 HS4.out (by omega)).mono ?_
    rintro e w5 ⟨v2, rfl, h0, h1, h2, hS, hg⟩
    have h92 := h1 (by omega)
    obtain ⟨v2, rfl⟩ := Int.eq_ofNat_of_zero_le h0
    have HS5 : Hid (M.Src w.heap.size a len cap w5) := hS
    have HB5 : Hid (Below w.heap.size w w5) := HB4.out.grown hg HB4.out.size (fun k hk => by have := Option.some.inj hk; omega)
    clear hS hg h1 h2
    go_wp2_with fail
    refine (src_bytes _ _ len cap a v2 HS5.out (by omega)).mono ?_
    rintro e w6 ⟨l2, rfl, hl, hS, hg⟩
    have HB6 : Hid (Below w.heap.size w w6) := HB5.out.grown hg HB5.out.size (fun k hk => by have := Option.some.inj hk; omega)
    have hm : (⟨l2.toArray⟩ : ByteArray).size ≤ maxLen := by rw [Lib.size_eq]; simp; unfold maxLen; omega
    obtain ⟨r1, r2⟩ := M.crcMore_range ⟨l2.toArray⟩
    clear hS hg hl
    go_wp2_with fail
    refine (sCrc_any _ _ hm).mono ?_
    rintro e w7 ⟨rfl, rfl⟩
    go_wp2
    go_ret2
    exact ⟨_, _, rfl, by omega, by omega, HZ.out, HB6.out⟩
  · go_wp2_with fail
    refine (src_edge _ _ len cap a HS4.out).mono ?_
    rintro e w5 ⟨v2, rfl, h0, h1, hS, hg⟩
    have HB5 : Hid (Below w.heap.size w w5) := HB4.out.grown hg HB4.out.size (fun k hk => by have := Option.some.inj hk; omega)
    clear hS hg
    go_wp2
    go_ret2
    exact ⟨_, _, rfl, h0, h1, HZ.out, HB5.out⟩
end Go.Proofs.YtbmbcfnlpbbapaaDoor
