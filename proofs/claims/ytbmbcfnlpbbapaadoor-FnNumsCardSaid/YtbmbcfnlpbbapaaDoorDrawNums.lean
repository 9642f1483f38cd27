/-
  The draws of promise 1.
-/
import Derived.Test.YtbmbcfnlpbbapaaDoorDrawWalks
namespace Go.Proofs.YtbmbcfnlpbbapaaDoor
open Go.RowKit

set_option maxRecDepth 100000 in
set_option maxHeartbeats 800000 in
theorem src_any (w : World) (g len cap : Nat) (a : Option Addr) (h : M.Src g a len cap w) :
    Calls Tryd.prog 41 #[.pointer (some ⟨g, 0, none⟩)] w fun e w' => ∃ v : Int, e = .returned (.int .i64 v) ∧ -9223372036854775808 ≤ v ∧ v ≤ 9223372036854775807 ∧ M.Src g a len cap w' ∧ w.grownBy w' (some g) := by
  have HS : Hid (M.Src g a len cap w) := h
  clear h
  go_enter Tryd.func41, Tryd.ntmps41
  go_wp2_with fail
  refine (src_one _ g len cap a 4 HS.out (by omega)).mono ?_
  rintro e w1 ⟨v, rfl, hS, hg⟩
  have HS1 : Hid (M.Src g a len cap w1) := hS
  have HG : Hid (w.grownBy w1 (some g)) := hg
  clear hS hg
  cases v
  · go_wp2_with fail
    refine (src_n _ g len cap a 1099511627776 HS1.out (by omega)).mono ?_
    rintro e w2 ⟨v, rfl, h0, h1, h2, hS, hg⟩
    have h14 := h1 (by omega)
    clear h1 h2
    have HS2 : Hid (M.Src g a len cap w2) := hS
    have HG2 : Hid (w1.grownBy w2 (some g)) := hg
    clear hS hg
    go_wp2
    go_ret
    exact ⟨_, rfl, by omega, by omega, HS2.out, M.grown_trans HG.out HG2.out⟩
  · go_wp2_with fail
    refine (src_edge _ g len cap a HS1.out).mono ?_
    rintro e w2 ⟨v, rfl, h0, h1, hS, hg⟩
    have HS2 : Hid (M.Src g a len cap w2) := hS
    have HG2 : Hid (w1.grownBy w2 (some g)) := hg
    clear hS hg
    go_wp2
    go_ret
    exact ⟨_, rfl, h0, h1, HS2.out, M.grown_trans HG.out HG2.out⟩

set_option maxRecDepth 100000 in
set_option maxHeartbeats 800000 in
theorem drawPutNum_any (w : World) (a : Option Addr) (len cap : Nat) (hR : M.IsRow w a len cap) :
    Calls Tryd.prog 7 #[.slice a len cap] w fun e w' => ∃ v : Int, e = .returned (.int .i64 v) ∧ -9223372036854775808 ≤ v ∧ v ≤ 9223372036854775807 ∧ Below w.heap.size w w' := by
  have HR : Hid (M.IsRow w a len cap) := hR
  clear hR
  go_enter Tryd.func7, Tryd.ntmps7
  go_wp2_with fail
  refine (source_any _ a len cap HR.out).mono ?_
  rintro e w1 ⟨rfl, hS, hb⟩
  have HS1 : Hid (M.Src w.heap.size a len cap w1) := hS
  have HB : Hid (Below w.heap.size w w1) := hb
  clear hS hb
  go_wp2_with fail
  refine (src_any _ _ len cap a HS1.out).mono ?_
  rintro e w2 ⟨v, rfl, h0, h1, hS, hg⟩
  have HG2 : Hid (w1.grownBy w2 (some w.heap.size)) := hg
  clear hS hg
  go_wp2
  go_ret
  exact ⟨v, rfl, h0, h1, HB.out.grown HG2.out HB.out.size (fun k hk => by have := Option.some.inj hk; omega)⟩

set_option maxRecDepth 100000 in
set_option maxHeartbeats 800000 in
theorem drawPutText_any (w : World) (a : Option Addr) (len cap : Nat) (hR : M.IsRow w a len cap) :
    Calls Tryd.prog 11 #[.slice a len cap] w fun e w' => ∃ s : ByteArray, e = .returned (.string s) ∧ s.size ≤ 20001 ∧ Below w.heap.size w w' := by
  obtain ⟨i0, hi, hz0, hz1, hz2⟩ := info_parts Tryd.infoB
  have HR : Hid (M.IsRow w a len cap) := hR
  clear hR
  go_enter Tryd.func11, Tryd.ntmps11
  go_wp2_with fail
  refine (source_any _ a len cap HR.out).mono ?_
  rintro e w1 ⟨rfl, hS, hb⟩
  have HS1 : Hid (M.Src w.heap.size a len cap w1) := hS
  have HB : Hid (Below w.heap.size w w1) := hb
  clear hS hb
  go_wp2_with fail
  refine (src_one _ _ len cap a 8 HS1.out (by omega)).mono ?_
  rintro e w2 ⟨v, rfl, hS, hg⟩
  have HS2 : Hid (M.Src w.heap.size a len cap w2) := hS
  have HB2 : Hid (Below w.heap.size w w2) := HB.out.grown hg HB.out.size (fun k hk => by have := Option.some.inj hk; omega)
  clear hS hg
  cases v
  · go_wp2_with fail
    refine (src_n _ _ len cap a 20 HS2.out (by omega)).mono ?_
    rintro e w3 ⟨v, rfl, h0, h1, h2, hS, hg⟩
    have h20 := h1 (by omega)
    obtain ⟨v, rfl⟩ := Int.eq_ofNat_of_zero_le h0
    have HS3 : Hid (M.Src w.heap.size a len cap w3) := hS
    have HB3 : Hid (Below w.heap.size w w3) := HB2.out.grown hg HB2.out.size (fun k hk => by have := Option.some.inj hk; omega)
    clear hS hg h1 h2
    go_wp2_with fail
    refine (src_bytes _ _ len cap a v HS3.out (by omega)).mono ?_
    rintro e w4 ⟨l, rfl, hl, hS, hg⟩
    have HB4 : Hid (Below w.heap.size w w4) := HB3.out.grown hg HB3.out.size (fun k hk => by have := Option.some.inj hk; omega)
    have HL : Hid (l.length = v) := hl
    clear hS hg hl
    go_wp2
    go_ret
    refine ⟨_, rfl, ?_, HB4.out⟩
    have := HL.out
    rw [Lib.size_eq]; simp; omega
  · go_wp2_with fail
    refine (src_n _ _ len cap a 3 HS2.out (by omega)).mono ?_
    rintro e w3 ⟨v, rfl, h0, h1, h2, hS, hg⟩
    have h3 := h1 (by omega)
    obtain ⟨v, rfl⟩ := Int.eq_ofNat_of_zero_le h0
    have HB3 : Hid (Below w.heap.size w w3) := HB2.out.grown hg HB2.out.size (fun k hk => by have := Option.some.inj hk; omega)
    clear hS hg h1 h2
    go_wp2_with (at_make; refine wpList_make_full _ rfl (.tmp 10) (.tmp 10) 22 rfl w3.heap.size 5 i0 (.int .u8 0) 1 Tryd.underlying22 hi hz0 hz1 .i64 .i64 _ _ (19999 + v) rfl rfl ?c1 ?c2 ?c3 ?c4 ?c5 ?_)
    case c1 => omega
    case c2 => omega
    case c3 => rw [hz2]; omega
    case c4 => unfold maxLen; omega
    case c5 => exact Nat.le_refl _
    intro w4 hown hgrow
    have hcv := M.zeros_conv Tryd.underlying22 Tryd.underlying5 Tryd.underlying9 hown
    have HB4 : Hid (Below w.heap.size w w4) := HB3.out.grown hgrow HB3.out.size (fun k hk => by simp at hk)
    clear hown hgrow
    go_wp2
    go_ret
    refine ⟨_, rfl, ?_, HB4.out⟩
    rw [Lib.size_eq]; simp; omega
end Go.Proofs.YtbmbcfnlpbbapaaDoor
