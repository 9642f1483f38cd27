/-
  A header's bytes, with what the specification's walks want of their sizes.
-/
import Derived.Test.YtbmbcfnlpbbapahDoorSZeros
import Derived.Test.YtbmbcfnlpbbapahDoorConvByte
import Derived.WalkKit
import Derived.WalkSpells
import Derived.WalkLawsBesides
namespace Go.Proofs.YtbmbcfnlpbbapahDoor
open Go.RowKit

theorem M.lt_of_al {w w' : World} {o : Obj} (hb : Below (w.alloc o).drew.heap.size (w.alloc o).drew w') : w.heap.size < w'.heap.size := by
  have h : (w.alloc o).heap.size ≤ w'.heap.size := hb.size
  rw [World.size_alloc] at h; omega
theorem M.s1 {a w v : World} (h : Below a.heap.size a w) (h' : Below w.heap.size w v) : Below a.heap.size a v := h.trans (h'.mono h.size)
theorem M.s2 {a w v : World} (h : Below a.heap.size a w) (h' : Below w.drew.heap.size w.drew v) : Below a.heap.size a v := M.s1 h.drew h'
theorem M.s3 {a w v : World} {o : Obj} (h : Below a.heap.size a w) (h' : Below (w.alloc o).heap.size (w.alloc o) v) : Below a.heap.size a v := M.s1 (h.alloc h.size o) h'
theorem M.s4 {a w v : World} {o : Obj} (h : Below a.heap.size a w) (h' : Below (w.alloc o).drew.heap.size (w.alloc o).drew v) : Below a.heap.size a v := M.s1 (h.alloc h.size o).drew h'
theorem M.lt_of_be {a : Nat} {w w' : World} (h : a < w.heap.size) (hb : Below w.heap.size w w') : a < w'.heap.size := Nat.lt_of_lt_of_le h hb.size
set_option maxRecDepth 100000 in
set_option maxHeartbeats 1600000 in
theorem sHeader_any (name : ByteArray) (size mode time kind : Nat) (w : World) (h0 : name.size ≤ 100) (h1 : size ≤ 9000000000) (h2 : mode ≤ 9000000000) (h3 : time ≤ 9000000000) (h4 : kind ≤ 255) :
    Calls Tryd.prog 19 #[.string name, .int .i64 size, .int .i64 mode, .int .i64 time, .int .i64 kind] w fun e w' => e = .returned (.string (M.head name size mode time kind)) ∧ Below w.heap.size w w' := by
  have HO : Hid (∀ (n d : Nat) W, n ≤ 9223372036854775807 → d ≤ 1000 → Calls Tryd.prog 15 #[.int .i64 n, .int .i64 d] W fun e w' => e = .returned (.string (M.octB n d)) ∧ Below W.heap.size W w') := fun n d W ha hb => sOct_any n d W ha hb
  have HZ : Hid (∀ (n : Nat) W, n ≤ 100000 → Calls Tryd.prog 37 #[.int .i64 n] W fun e w' => e = .returned (.string (M.zerosB n)) ∧ Below W.heap.size W w') := fun n W ha => sZeros_any n W ha
  have HT : Hid (∀ (n d : Nat) W, n ≤ 9223372036854775807 → d ≤ 1000 → Calls Tryd.prog 15 #[.int .i64 n, .int .i64 d] W fun e w' => ∃ t : ByteArray, Hid (t = M.octB n d) ∧ t.size ≤ d ∧ e = .returned (.string t) ∧ Below W.heap.size W w') := fun n d W ha hb => (sOct_any n d W ha hb).mono fun e w' h => ⟨_, rfl, M.octB_size n d, h.1, h.2⟩
  have HS : Hid (∀ (s : ByteArray) W, s.size ≤ 1000000 → Calls Tryd.prog 38 #[.string s] W fun e w' => e = .returned (.int .i64 (M.sumH s)) ∧ W = w') := fun s W ha => sSum_any s W ha
  have HB : Hid (∀ x : ByteArray, x.size ≤ 2000 → M.sumH x ≤ 9223372036854775807) := fun x h => Nat.le_trans (M.sumK_le x x.size) (by omega)
  have z1 : (M.zerosB (100 - name.size)).size ≤ 100 := by rw [M.zerosB_size]; omega
  have z2 : (M.zerosB 100).size ≤ 100 := by rw [M.zerosB_size]; omega
  have z3 : (M.zerosB 247).size ≤ 247 := by rw [M.zerosB_size]; omega
  have z4 : (M.zerosB 8).size ≤ 8 := by rw [M.zerosB_size]; omega
  have o0 := M.octB_size 0 7
  have o1 := M.octB_size mode 7
  have o2 := M.octB_size size 11
  have o3 := M.octB_size time 11
  go_enter Tryd.func19, Tryd.ntmps19
  go_wp2_with fail
  refine (HO.out 0 7 _ (by omega) (by omega)).mono ?_
  rintro e w1 ⟨rfl, hb⟩
  have B1 : Hid (Below w.heap.size w w1) := hb
  clear hb
  have hsub : (100 : Int) - (name.size : Int) = ((100 - name.size : Nat) : Int) := by omega
  go_wp2_with fail
  refine (HZ.out (100 - name.size) _ (by omega)).mono ?_
  rintro e w2 ⟨rfl, hb⟩
  have B2 : Hid (Below w.heap.size w w2) := B1.out.trans (hb.mono B1.out.size)
  clear hb B1
  clear hsub
  go_wp2_with fail
  refine (HO.out mode 7 _ (by omega) (by omega)).mono ?_
  rintro e w3 ⟨rfl, hb⟩
  have B3 : Hid (Below w.heap.size w w3) := B2.out.trans (hb.mono B2.out.size)
  clear hb B2
  go_wp2_with fail
  refine (HO.out size 11 _ (by omega) (by omega)).mono ?_
  rintro e w4 ⟨rfl, hb⟩
  have B4 : Hid (Below w.heap.size w w4) := B3.out.trans (hb.mono B3.out.size)
  clear hb B3
  go_wp2_with fail
  refine (HO.out time 11 _ (by omega) (by omega)).mono ?_
  rintro e w5 ⟨rfl, hb⟩
  have B5 : Hid (Below w.heap.size w w5) := B4.out.trans (hb.mono B4.out.size)
  clear hb B4
  have hcv : ∀ (W : World) (b : Nat), W.cell? ⟨b, 0, none⟩ = some (.int .u8 (IntKind.u8.wrap (kind : Int))) → (convert 40 9 (.slice (some ⟨b, 0, none⟩) 1 1)).run Tryd.prog W = .ok (.string ⟨#[UInt8.ofNat (kind : Int).toNat]⟩) W := by
    intro W b h
    have hwr : IntKind.u8.wrap (kind : Int) = (kind : Int) := by rw [IntKind.wrap_u8]; omega
    rw [hwr] at h
    refine run_convert_bytes_back _ _ _ 5 _ 1 [UInt8.ofNat (kind : Int).toNat] Tryd.underlying40 Tryd.underlying5 Tryd.underlying9 fun j hj => ?_
    have hj0 : j = 0 := by simp at hj; omega
    subst hj0
    rw [Addr.add_lit, Nat.zero_add]
    have e : ((UInt8.ofNat (kind : Int).toNat).toNat : Int) = kind := by
      rw [UInt8.toNat_ofNat', Nat.mod_eq_of_lt (show (kind : Int).toNat < 2 ^ 8 by omega)]; omega
    rw [h]
    simp only [List.getElem_cons_zero, e]
  go_wp2_with fail
  go_region_with (go_at_call 37; first | (refine (HZ.out 100 _ (by omega)).mono ?_; rintro e wz ⟨rfl, hz⟩; have hzc := fun (p : Addr) h => hz.cell (p := p) h; first | have hzq := M.lt_of_al hz | have hzq := M.lt_of_be (by assumption) hz | skip) | (refine (HZ.out 247 _ (by omega)).mono ?_; rintro e wy ⟨rfl, hy⟩; have hyc := fun (p : Addr) h => hy.cell (p := p) h; first | have hyq := M.lt_of_al hy | have hyq := M.lt_of_be (by assumption) hy | skip))
  all_goals
    clear hzc hyc
    go_wp2_with fail
    refine (HZ.out 8 _ (by omega)).mono ?_
    rintro e w6 ⟨rfl, hb⟩
    have B6 : Hid (Below w.heap.size w w6) := by
      first
        | exact M.s1 (M.s1 (M.s4 B5.out hz) hy) hb
        | exact M.s1 (M.s3 (M.s2 B5.out hz) hy) hb
        | exact M.s3 (M.s1 (M.s2 B5.out hz) hy) hb
        | exact M.s1 (M.s1 (M.s4 B5.out hy) hz) hb
        | exact M.s1 (M.s3 (M.s2 B5.out hy) hz) hb
        | exact M.s3 (M.s1 (M.s2 B5.out hy) hz) hb
    clear hb hz hy
    go_wp2_with fail
    refine (HS.out _ _ (by simp only [ByteArray.size_append, show ByteArray.size ⟨#[0]⟩ = 1 from rfl, show ByteArray.size ⟨#[117, 115, 116, 97, 114, 0, 48, 48]⟩ = 8 from rfl, show ∀ c, ByteArray.size ⟨#[c]⟩ = 1 from fun _ => rfl]; omega)).mono ?_
    rintro e w7 ⟨rfl, rfl⟩
    go_wp2_with fail
    refine (HT.out _ 6 _ (HB.out _ (by simp only [ByteArray.size_append, show ByteArray.size ⟨#[0]⟩ = 1 from rfl, show ByteArray.size ⟨#[117, 115, 116, 97, 114, 0, 48, 48]⟩ = 8 from rfl, show ∀ c, ByteArray.size ⟨#[c]⟩ = 1 from fun _ => rfl]; omega)) (by omega)).mono ?_
    rintro e w8 ⟨t, ht, htz, rfl, hb⟩
    have B8 : Hid (Below w.heap.size w w8) := M.s1 B6.out hb
    clear hb B6
    go_wp2_with fail
    go_ret
    refine ⟨?_, B8.out⟩
    rw [ht.out]
    rfl
end Go.Proofs.YtbmbcfnlpbbapahDoor
