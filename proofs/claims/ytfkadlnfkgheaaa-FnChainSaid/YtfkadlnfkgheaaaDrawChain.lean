/-
  What DrawChainOf and DrawKept of the specification draw.
-/
import Derived.Test.YtfkadlnfkgheaaaDrawMarks
namespace Go.Proofs.Ytfkadlnfkgheaaa
open Go.RowKit

theorem M.hdc {p : Prop} (h : p) : Hid p := h
set_option maxRecDepth 100000 in
set_option maxHeartbeats 800000 in
theorem drawChainOf_any (w : World) (a : Option Addr) (len cap : Nat) (hR : M.IsRow w a len cap) :
    Calls Try.prog 8 #[.slice a len cap] w fun e w' => ∃ (v : Value) (ms : List M.MkD) (id : Int), e = .returned (.tuple #[v, .int .i64 id]) ∧ ms.length ≤ 12 ∧ (0 ≤ id ∧ id ≤ 16) ∧ M.OwnK w' w.heap.size v ms ∧ Below w.heap.size w w' := by
  have HR := M.hdc hR
  clear hR
  go_enter Try.func8, Try.ntmps8
  go_wp2_with fail
  refine (source_any _ a len cap HR.out).mono ?_
  rintro e w1 ⟨rfl, hS, hb⟩
  have HS1 := M.hdc hS
  have HB := M.hdc hb
  clear hS hb
  have UP : Hid (∀ {W W' : World}, Below w.heap.size w W → W.grownBy W' (some w.heap.size) → Below w.heap.size w W') := fun hB hg => hB.grown hg hB.size (fun k hk => by have := Option.some.inj hk; omega)
  go_wp2_with fail
  refine (src_marks _ _ len cap a HS1.out).mono ?_
  rintro e w2 ⟨v, ms, rfl, hl, hO, hS, hg⟩
  have HS2 := M.hdc hS
  have HB2 := M.hdc (UP.out HB.out hg)
  have O2 := M.hdc hO
  have HW := M.hdc HS1.out.lt
  clear hS hg hO
  go_wp2_with fail
  refine (src_n _ _ len cap a 16 HS2.out (by omega)).mono ?_
  rintro e w3 ⟨z, rfl, h0, h1, h2, hS, hg⟩
  have h16 := h1 (by omega)
  have HB3 := M.hdc (UP.out HB2.out hg)
  have O3 := M.hdc (O2.out.grown hg (fun j hj e => by
    obtain rfl := Option.some.inj e
    have := (World.ownsRow.lt O2.out _ hj).1
    have := HW.out
    omega))
  have HW1 := M.hdc HB.out.size
  clear hS hg h1 h2
  go_wp2
  go_ret2
  exact ⟨_, ms, z, rfl, hl, ⟨h0, by omega⟩, O3.out.down HW1.out, HB3.out⟩

set_option maxRecDepth 100000 in
set_option maxHeartbeats 800000 in
theorem drawKept_any (w : World) (a : Option Addr) (len cap : Nat) (hR : M.IsRow w a len cap) :
    Calls Try.prog 15 #[.slice a len cap] w fun e w' => ∃ (v u : Value) (ms : List M.MkD) (ids : List Int), e = .returned (.tuple #[v, u]) ∧ ms.length ≤ 12 ∧ ids.length ≤ 100 ∧ M.OwnK w' w.heap.size v ms ∧ M.OwnN w' w.heap.size u ids ∧ Below w.heap.size w w' := by
  have HR := M.hdc hR
  clear hR
  go_enter Try.func15, Try.ntmps15
  go_wp2_with fail
  refine (source_any _ a len cap HR.out).mono ?_
  rintro e w1 ⟨rfl, hS, hb⟩
  have HS1 := M.hdc hS
  have HB := M.hdc hb
  clear hS hb
  have UP : Hid (∀ {W W' : World}, Below w.heap.size w W → W.grownBy W' (some w.heap.size) → Below w.heap.size w W') := fun hB hg => hB.grown hg hB.size (fun k hk => by have := Option.some.inj hk; omega)
  go_wp2_with fail
  refine (src_marks _ _ len cap a HS1.out).mono ?_
  rintro e w2 ⟨v, ms, rfl, hl, hO, hS, hg⟩
  have HS2 := M.hdc hS
  have HB2 := M.hdc (UP.out HB.out hg)
  have O2 := M.hdc hO
  have HW := M.hdc HS1.out.lt
  have NE : Hid (∀ j, v.ownBlock = some j → some j ≠ some w.heap.size) := fun j hj e => by
    obtain rfl := Option.some.inj e
    have := (World.ownsRow.lt O2.out _ hj).1
    have := HW.out
    omega
  clear hS hg hO
  go_wp2_with fail
  refine (src_n _ _ len cap a 4 HS2.out (by omega)).mono ?_
  rintro e w3 ⟨z, rfl, h0, h1, h2, hS, hg⟩
  have h4 := h1 (by omega)
  have HS3 := M.hdc hS
  have HB3 := M.hdc (UP.out HB2.out hg)
  have O3 := M.hdc (O2.out.grown hg NE.out)
  have HW1 := M.hdc HB.out.size
  obtain ⟨q, rfl⟩ := Int.eq_ofNat_of_zero_le h0
  clear hS hg h1 h2
  go_wp2_with fail
  refine (src_list _ _ len cap a q HS3.out (by omega)).mono ?_
  rintro e w4 ⟨u, ids, rfl, hi, hN, hS, hg⟩
  have HB4 := M.hdc (UP.out HB3.out hg)
  have O4 := M.hdc (O3.out.grown hg NE.out)
  have N4 := M.hdc hN
  have HW3 := M.hdc HB3.out.size
  clear hS hg hN
  go_wp2
  go_ret2
  refine ⟨_, _, ms, ids, rfl, hl, hi, O4.out.down HW1.out, ?_, HB4.out⟩
  obtain ⟨hl', h0' | ⟨g, cp, cur, hv, hg, hr⟩⟩ := N4.out
  · exact ⟨hl', .inl h0'⟩
  · exact ⟨hl', .inr ⟨g, cp, cur, hv, Nat.le_trans HW3.out hg, hr⟩⟩
end Go.Proofs.Ytfkadlnfkgheaaa
