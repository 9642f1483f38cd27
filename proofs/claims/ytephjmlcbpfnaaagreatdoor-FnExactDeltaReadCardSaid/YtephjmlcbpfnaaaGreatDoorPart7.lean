/-
  What l03Ill and l03Of of the specification do.
-/
import Derived.Test.YtephjmlcbpfnaaaGreatDoorPart6
import Derived.Test.YtephjmlcbpfnaaaGreatDoorWide
import Derived.Test.YtephjmlcbpfnaaaGreatDoorRows
import Derived.Deep.RegionWith
import Derived.WalkKit
import Derived.WalkSpells
import Derived.WalkLawsBesides
import Derived.Deep.WholeRow
import Derived.Deep.MidRow
import Derived.Lib.LazyBuf
import Derived.Lib.SlBuf
namespace Go.Proofs.YtephjmlcbpfnaaaGreatDoor
open Go.RowKit

set_option maxRecDepth 100000 in
set_option maxHeartbeats 400000 in
theorem sIll_any (c : Int) (a : Nat) (w : World) (h : a ≤ 100000) :
    Calls Tryz.prog 101 #[.int .i64 c, .int .i64 a] w fun e w' => e = .returned (.agg #[.slice none 0 0, .int .i64 ((a / 512 : Nat) : Int), .int .i64 c]) ∧ Below w.heap.size w w' := by
  go_enter Tryz.func101, Tryz.ntmps101
  go_wp2
  exact bodyPost_ret (v := .agg #[.slice none 0 0, .int .i64 ((a / 512 : Nat) : Int), .int .i64 c]) (by simp [results, Tryz.results101, go_sem]) rfl ⟨rfl, (Below.refl _ _).alloc (Nat.le_refl _) _⟩

theorem M.fileL_val {h data path nm : ByteArray} (hh : h.size = 512) (e : nm.data.toList = (if path.data.toList = [] then M.textL (M.cutL h.data.toList 0 100) else path.data.toList)) :
    M.fileL h.data.toList data.data.toList path.data.toList = ⟨M.ba (if h[156] = 53 then M.stripL nm.data.toList else nm.data.toList), decide (h[156] = 53), M.octR (h.extract 100 107), M.octR (h.extract 136 147), data⟩ := by
  have hk : M.kindL h.data.toList = h[156] := by
    unfold M.kindL
    rw [List.getD_eq_getElem?_getD, M.at_list (by omega), Option.getD_some]
  unfold M.fileL
  rw [← e, hk, M.cut_mk h 100 107, M.cut_mk h 136 147]
  rfl
theorem M.strip_dir {nm : ByteArray} {r : Nat} (hr : nm.size = r + 1) (hlt : r < nm.size) (h : nm[r] = 47) : M.ba (M.stripL nm.data.toList) = nm.extract 0 r := by
  have hl : nm.data.toList.length = r + 1 := by rw [← Lib.size_eq]; exact hr
  have hg : nm.data.toList.getLast? = some 47 := by rw [List.getLast?_eq_getElem?, hl, Nat.add_sub_cancel, M.at_list hlt, h]
  unfold M.stripL
  rw [if_pos hg, M.cut_mk nm 0 r, List.dropLast_eq_take, hl]
  rfl
theorem M.strip_not {nm : ByteArray} {r : Nat} (hr : nm.size = r + 1) (hlt : r < nm.size) (h : ¬ nm[r] = 47) : M.ba (M.stripL nm.data.toList) = nm := by
  have hl : nm.data.toList.length = r + 1 := by rw [← Lib.size_eq]; exact hr
  have hg : ¬ nm.data.toList.getLast? = some 47 := by rw [List.getLast?_eq_getElem?, hl, Nat.add_sub_cancel, M.at_list hlt]; exact fun e => h (Option.some.inj e)
  unfold M.stripL
  rw [if_neg hg]
  exact (M.ba_toL nm).symm
theorem M.strip_nil {nm : ByteArray} (h : nm.size = 0) : M.ba (M.stripL nm.data.toList) = nm := by
  have hl : nm.data.toList = [] := List.eq_nil_of_length_eq_zero (by rw [← Lib.size_eq]; exact h)
  unfold M.stripL
  rw [hl, if_neg (by simp)]
  show M.ba [] = nm
  rw [← hl]; exact (M.ba_toL nm).symm
theorem M.nonempty {x : ByteArray} (h : ¬ x.size = 0) : (x.toList == []) = false := by
  rw [beq_eq_false_iff_ne]
  intro e
  apply h
  rw [Lib.size_eq, ← ByteArray.toList_eq, e]; rfl
theorem M.isempty {x : ByteArray} (h : x.size = 0) : (x.toList == []) = true := by
  rw [beq_iff_eq, ByteArray.toList_eq]; exact List.eq_nil_of_length_eq_zero (by rw [← Lib.size_eq]; exact h)

set_option maxRecDepth 100000 in
set_option maxHeartbeats 1600000 in
theorem sOf_any (h data path : ByteArray) (w : World) (hh : h.size = 512) (hp : path.size ≤ 100000) :
    Calls Tryz.prog 107 #[.string h, .string data, .string path] w fun e w' => e = .returned (M.fval (M.fileL h.data.toList data.data.toList path.data.toList)) ∧ Below w.heap.size w w' := by
  have HO : Hid (∀ (s : ByteArray) W, s.size ≤ 1000 → Calls Tryz.prog 105 #[.string s] W fun e w' => e = .returned (.int .i64 (M.octR s)) ∧ W = w') := fun s W hs => sOctR_any s W (by unfold maxLen; omega)
  have HT : Hid (∀ (s : ByteArray) W, s.size ≤ 1000 → Calls Tryz.prog 152 #[.string s] W fun e w' => e = .returned (.string (M.ba (M.textL s.data.toList))) ∧ W = w') := fun s W hs => sText_any s W (by omega)
  have h156 : 156 < h.size := by omega
  have HV : Hid (∀ (nm : ByteArray), nm.data.toList = (if path.data.toList = [] then M.textL (M.cutL h.data.toList 0 100) else path.data.toList) → M.fileL h.data.toList data.data.toList path.data.toList = ⟨M.ba (if h[156] = 53 then M.stripL nm.data.toList else nm.data.toList), decide (h[156] = 53), M.octR (h.extract 100 107), M.octR (h.extract 136 147), data⟩) := fun nm e => M.fileL_val hh e
  obtain ⟨x1, r1⟩ : ∃ x, h.extract 100 107 = x := ⟨_, rfl⟩
  obtain ⟨x2, r2⟩ : ∃ x, h.extract 136 147 = x := ⟨_, rfl⟩
  obtain ⟨x0, r0⟩ : ∃ x, h.extract 0 100 = x := ⟨_, rfl⟩
  have hx1 : x1.size ≤ 7 := by rw [← r1, ByteArray.size_extract]; omega
  have hx2 : x2.size ≤ 11 := by rw [← r2, ByteArray.size_extract]; omega
  have hx0 : x0.size ≤ 100 := by rw [← r0, ByteArray.size_extract]; omega
  have HR : Hid (h.extract 100 107 = x1 ∧ h.extract 136 147 = x2 ∧ h.extract 0 100 = x0) := ⟨r1, r2, r0⟩
  obtain ⟨m, hm⟩ : ∃ m, m = M.octR x1 := ⟨_, rfl⟩
  obtain ⟨n, hn⟩ : ∃ n, n = M.octR x2 := ⟨_, rfl⟩
  have C1 : Hid (∀ W, Calls Tryz.prog 105 #[.string x1] W fun e w' => e = .returned (.int .i64 m) ∧ W = w') := fun W => by rw [hm]; exact HO.out x1 W (by omega)
  have C2 : Hid (∀ W, Calls Tryz.prog 105 #[.string x2] W fun e w' => e = .returned (.int .i64 n) ∧ W = w') := fun W => by rw [hn]; exact HO.out x2 W (by omega)
  have HMN : Hid (m = M.octR x1 ∧ n = M.octR x2) := ⟨hm, hn⟩
  clear hm hn HO
  go_enter Tryz.func107, Tryz.ntmps107
  go_wp2_with fail
  go_region_with (first | (go_at_call_of 105 x1; refine (C1.out _).mono ?_; rintro e w' ⟨rfl, rfl⟩) | (go_at_call_of 105 x2; refine (C2.out _).mono ?_; rintro e w' ⟨rfl, rfl⟩))
  all_goals
    by_cases hpe : path.size = 0
    case neg =>
      have p1 := M.nonempty hpe
      have HNM : Hid (path.data.toList = (if path.data.toList = [] then M.textL (M.cutL h.data.toList 0 100) else path.data.toList)) := by
        show _ = _
        rw [if_neg (fun e => hpe (by rw [Lib.size_eq, e]; rfl))]
      have HPE : Hid (¬ path.size = 0) := hpe
      clear hpe
      by_cases hk : h[156] = 53
      case neg =>
        have k1 : (((h[156]'h156).toNat : Int) == 53) = false := by rw [beq_eq_false_iff_ne]; exact fun e => hk (UInt8.toNat_inj.1 (by show _ = 53; omega))
        have HF : Hid (M.fileL h.data.toList data.data.toList path.data.toList = ⟨path, false, M.octR (h.extract 100 107), M.octR (h.extract 136 147), data⟩) := by show _ = _; rw [HV.out path HNM.out, if_neg hk, decide_eq_false hk]; congr 1
        go_wp2
        exact bodyPost_ret (v := .agg #[.string (path), .bool false, .int .i64 m, .int .i64 n, .string data]) (by simp [results, Tryz.results107, go_sem]) rfl ⟨by rw [HF.out, HR.out.1, HR.out.2.1, ← HMN.out.1, ← HMN.out.2]; rfl, by repeat (first | exact Below.refl _ _ | refine Below.setCell ?_ (by simp) _ | refine Below.drew ?_ | refine Below.alloc ?_ (by simp) _)⟩
      have k1 : (((h[156]'h156).toNat : Int) == 53) = true := by rw [hk]; rfl
      by_cases hz : path.size = 0
      case pos =>
        exact absurd hz HPE.out
      have z1 := M.nonempty hz
      obtain ⟨r, hr⟩ : ∃ r, path.size = r + 1 := ⟨path.size - 1, by omega⟩
      have hrl : r < path.size := by omega
      by_cases hc : path[r] = 47
      case pos =>
        have c1 : (((path[r]'hrl).toNat : Int) == 47) = true := by rw [hc]; rfl
        have HF : Hid (M.fileL h.data.toList data.data.toList path.data.toList = ⟨path.extract 0 r, true, M.octR (h.extract 100 107), M.octR (h.extract 136 147), data⟩) := by show _ = _; rw [HV.out path HNM.out, if_pos hk, decide_eq_true hk, M.strip_dir hr hrl hc]
        clear hz hk hc
        go_wp2
        exact bodyPost_ret (v := .agg #[.string (path.extract 0 r), .bool true, .int .i64 m, .int .i64 n, .string data]) (by simp [results, Tryz.results107, go_sem]) rfl ⟨by rw [HF.out, HR.out.1, HR.out.2.1, ← HMN.out.1, ← HMN.out.2]; rfl, by repeat (first | exact Below.refl _ _ | refine Below.setCell ?_ (by simp) _ | refine Below.drew ?_ | refine Below.alloc ?_ (by simp) _)⟩
      have c1 : (((path[r]'hrl).toNat : Int) == 47) = false := by rw [beq_eq_false_iff_ne]; exact fun e => hc (UInt8.toNat_inj.1 (by show _ = 47; omega))
      have HF : Hid (M.fileL h.data.toList data.data.toList path.data.toList = ⟨path, true, M.octR (h.extract 100 107), M.octR (h.extract 136 147), data⟩) := by show _ = _; rw [HV.out path HNM.out, if_pos hk, decide_eq_true hk, M.strip_not hr hrl hc]
      clear hz hk hc
      go_wp2
      exact bodyPost_ret (v := .agg #[.string (path), .bool true, .int .i64 m, .int .i64 n, .string data]) (by simp [results, Tryz.results107, go_sem]) rfl ⟨by rw [HF.out, HR.out.1, HR.out.2.1, ← HMN.out.1, ← HMN.out.2]; rfl, by repeat (first | exact Below.refl _ _ | refine Below.setCell ?_ (by simp) _ | refine Below.drew ?_ | refine Below.alloc ?_ (by simp) _)⟩
    have p1 := M.isempty hpe
    obtain ⟨t, ht⟩ : ∃ t, t = M.ba (M.textL x0.data.toList) := ⟨_, rfl⟩
    have HNM : Hid (t.data.toList = (if path.data.toList = [] then M.textL (M.cutL h.data.toList 0 100) else path.data.toList)) := by
      show _ = _
      rw [if_pos (List.eq_nil_of_length_eq_zero (by rw [← Lib.size_eq]; exact hpe)), ht, ← HR.out.2.2, M.cut_mk h 0 100]
      rfl
    have hts : t.size ≤ 100 := by
      rw [ht, M.ba_size]
      refine Nat.le_trans (List.takeWhile_prefix _).length_le ?_
      rw [← Lib.size_eq]; exact hx0
    have CT : Hid (∀ W, Calls Tryz.prog 152 #[.string x0] W fun e w' => e = .returned (.string t) ∧ W = w') := fun W => by rw [ht]; exact HT.out x0 W (by omega)
    clear hpe ht
    go_wp2_with fail
    refine (CT.out _).mono ?_
    rintro e w1 ⟨rfl, rfl⟩
    by_cases hk : h[156] = 53
    case neg =>
      have k1 : (((h[156]'h156).toNat : Int) == 53) = false := by rw [beq_eq_false_iff_ne]; exact fun e => hk (UInt8.toNat_inj.1 (by show _ = 53; omega))
      have HF : Hid (M.fileL h.data.toList data.data.toList path.data.toList = ⟨t, false, M.octR (h.extract 100 107), M.octR (h.extract 136 147), data⟩) := by show _ = _; rw [HV.out t HNM.out, if_neg hk, decide_eq_false hk]; congr 1
      go_wp2
      exact bodyPost_ret (v := .agg #[.string (t), .bool false, .int .i64 m, .int .i64 n, .string data]) (by simp [results, Tryz.results107, go_sem]) rfl ⟨by rw [HF.out, HR.out.1, HR.out.2.1, ← HMN.out.1, ← HMN.out.2]; rfl, by repeat (first | exact Below.refl _ _ | refine Below.setCell ?_ (by simp) _ | refine Below.drew ?_ | refine Below.alloc ?_ (by simp) _)⟩
    have k1 : (((h[156]'h156).toNat : Int) == 53) = true := by rw [hk]; rfl
    by_cases hz : t.size = 0
    case pos =>
      have z1 := M.isempty hz
      have HF : Hid (M.fileL h.data.toList data.data.toList path.data.toList = ⟨t, true, M.octR (h.extract 100 107), M.octR (h.extract 136 147), data⟩) := by show _ = _; rw [HV.out t HNM.out, if_pos hk, decide_eq_true hk, M.strip_nil hz]
      clear hz hk
      go_wp2
      exact bodyPost_ret (v := .agg #[.string (t), .bool true, .int .i64 m, .int .i64 n, .string data]) (by simp [results, Tryz.results107, go_sem]) rfl ⟨by rw [HF.out, HR.out.1, HR.out.2.1, ← HMN.out.1, ← HMN.out.2]; rfl, by repeat (first | exact Below.refl _ _ | refine Below.setCell ?_ (by simp) _ | refine Below.drew ?_ | refine Below.alloc ?_ (by simp) _)⟩
    have z1 := M.nonempty hz
    obtain ⟨r, hr⟩ : ∃ r, t.size = r + 1 := ⟨t.size - 1, by omega⟩
    have hrl : r < t.size := by omega
    by_cases hc : t[r] = 47
    case pos =>
      have c1 : (((t[r]'hrl).toNat : Int) == 47) = true := by rw [hc]; rfl
      have HF : Hid (M.fileL h.data.toList data.data.toList path.data.toList = ⟨t.extract 0 r, true, M.octR (h.extract 100 107), M.octR (h.extract 136 147), data⟩) := by show _ = _; rw [HV.out t HNM.out, if_pos hk, decide_eq_true hk, M.strip_dir hr hrl hc]
      clear hz hk hc
      go_wp2
      exact bodyPost_ret (v := .agg #[.string (t.extract 0 r), .bool true, .int .i64 m, .int .i64 n, .string data]) (by simp [results, Tryz.results107, go_sem]) rfl ⟨by rw [HF.out, HR.out.1, HR.out.2.1, ← HMN.out.1, ← HMN.out.2]; rfl, by repeat (first | exact Below.refl _ _ | refine Below.setCell ?_ (by simp) _ | refine Below.drew ?_ | refine Below.alloc ?_ (by simp) _)⟩
    have c1 : (((t[r]'hrl).toNat : Int) == 47) = false := by rw [beq_eq_false_iff_ne]; exact fun e => hc (UInt8.toNat_inj.1 (by show _ = 47; omega))
    have HF : Hid (M.fileL h.data.toList data.data.toList path.data.toList = ⟨t, true, M.octR (h.extract 100 107), M.octR (h.extract 136 147), data⟩) := by show _ = _; rw [HV.out t HNM.out, if_pos hk, decide_eq_true hk, M.strip_not hr hrl hc]
    clear hz hk hc
    go_wp2
    exact bodyPost_ret (v := .agg #[.string (t), .bool true, .int .i64 m, .int .i64 n, .string data]) (by simp [results, Tryz.results107, go_sem]) rfl ⟨by rw [HF.out, HR.out.1, HR.out.2.1, ← HMN.out.1, ← HMN.out.2]; rfl, by repeat (first | exact Below.refl _ _ | refine Below.setCell ?_ (by simp) _ | refine Below.drew ?_ | refine Below.alloc ?_ (by simp) _)⟩
end Go.Proofs.YtephjmlcbpfnaaaGreatDoor

/-
  A text of one byte, out of a slice of one.
-/
namespace Go.Proofs.YtephjmlcbpfnaaaGreatDoor
open Go.RowKit

theorem M.conv_byte (w : World) (z : Int) (h0 : 0 ≤ z) (h9 : z < 256) : (convert 61 9 (.slice (some ⟨w.heap.size, 0, none⟩) 1 1)).run Tryz.prog (w.alloc (.cells #[.int .u8 z] 5))
      = .ok (.string ⟨#[UInt8.ofNat z.toNat]⟩) (w.alloc (.cells #[.int .u8 z] 5)) := by
  refine run_convert_bytes_back (w.alloc _) _ _ 5 _ 1 [UInt8.ofNat z.toNat] Tryz.underlying61 Tryz.underlying5 Tryz.underlying9 fun j hj => ?_
  have hj0 : j = 0 := by simp at hj; omega
  subst hj0
  rw [Addr.add_lit, Nat.zero_add, World.cell?_alloc_mark]
  have e : ((UInt8.ofNat z.toNat).toNat : Int) = z := by
    rw [UInt8.toNat_ofNat']
    rw [Nat.mod_eq_of_lt (show z.toNat < 2 ^ 8 by omega)]; omega
  simp only [List.getElem_cons_zero, e]
  rfl
end Go.Proofs.YtephjmlcbpfnaaaGreatDoor

/-
  A row of bytes in memory: an array of bytes that is a block of its own.
-/
namespace Go.Proofs.YtephjmlcbpfnaaaGreatDoor
open Go.RowKit

def M.u8 (c : UInt8) : Value := .int .u8 c.toNat
/-- The cells of a block, from its first on, hold these bytes, and may be written. -/
structure M.BRow (w : World) (b : Nat) (L : List UInt8) : Prop where
  cell : ∀ j (h : j < L.length), w.cell? ⟨b, j, none⟩ = some (.int .u8 ((L[j]).toNat : Int))
  free : ∀ j, j < L.length → w.frozen? ⟨b, j, none⟩ = false
  lt : b < w.heap.size
theorem M.BRow.drewN {w : World} {b : Nat} {L : List UInt8} (h : M.BRow w b L) (n : Nat) : M.BRow (w.drewN n) b L :=
  ⟨fun j hj => by rw [World.cell?_drewN]; exact h.cell j hj, fun j hj => by rw [World.frozen?_drewN]; exact h.free j hj, by simpa using h.lt⟩
theorem M.BRow.below {w w' : World} {b : Nat} {L : List UInt8} (h : M.BRow w b L) (hb : Below w.heap.size w w') : M.BRow w' b L :=
  ⟨fun j hj => by rw [hb.cell (p := ⟨b, j, none⟩) h.lt]; exact h.cell j hj, fun j hj => by rw [hb.frozen (p := ⟨b, j, none⟩) h.lt]; exact h.free j hj, Nat.lt_of_lt_of_le h.lt hb.size⟩
theorem M.sumK_L {L : List UInt8} {k : Nat} (h : k < L.length) : M.sumK ⟨L.toArray⟩ (k + 1) = M.sumK ⟨L.toArray⟩ k + M.sumC k L[k] := by
  show _ + M.sumC k (L.getD k 0) = _
  rw [List.getD_eq_getElem?_getD, List.getElem?_eq_getElem h, Option.getD_some]

/-- A block of the type T holds just these bytes. -/
def M.Arr (w : World) (b : Nat) (T : TypeId) (L : List UInt8) : Prop := w.heap[b]? = some (.cells (L.map M.u8).toArray T (0, 0))
namespace M.Arr
variable {w w' : World} {b : Nat} {T : TypeId} {L : List UInt8}
theorem lt (H : M.Arr w b T L) : b < w.heap.size := (Array.getElem?_eq_some_iff.1 H).1
theorem row (H : M.Arr w b T L) : M.BRow w b L := by
  refine ⟨fun j h => ?_, fun j h => ?_, H.lt⟩
  · unfold M.Arr at H; simp [World.cell?, H, h, M.u8]
  · unfold M.Arr at H; simp [World.frozen?, H]
theorem set (H : M.Arr w b T L) (i : Nat) (c : UInt8) : M.Arr (w.setCell ⟨b, i, none⟩ (M.u8 c)) b T (L.set i c) := by
  unfold M.Arr at H ⊢
  simp only [World.setCell, Array.getElem?_modify, H]
  simp [List.map_set]
theorem drewN (H : M.Arr w b T L) (n : Nat) : M.Arr (w.drewN n) b T L := H
theorem below {B : Nat} (H : M.Arr w b T L) (hb : Below B w w') (h : b < B) : M.Arr w' b T L := by
  unfold M.Arr at H ⊢
  rw [hb.block b h]; exact H
theorem setCells : ∀ (X : List UInt8) (o : Nat) (w : World) (L : List UInt8), M.Arr w b T L → o + X.length ≤ L.length → M.Arr (w.setCells b o (X.map M.u8)) b T (M.over L o X)
  | [], o, w, L, H, h => by unfold M.over; simpa [World.setCells] using H
  | c :: X, o, w, L, H, h => by
    rw [List.length_cons] at h
    have ih := setCells X (o + 1) _ _ (H.set o c) (by rw [List.length_set]; omega)
    have e : M.over (L.set o c) (o + 1) X = M.over L o (c :: X) := by
      unfold M.over
      rw [List.drop_set_of_lt (by omega), List.take_add_one, List.take_set_of_le (Nat.le_refl _)]
      rw [List.getElem?_set_self (by omega)]
      simp
      congr 1
      omega
    rw [e] at ih
    exact ih
end M.Arr
theorem M.Arr.there {w : World} {b : Nat} {T : TypeId} {L : List UInt8} (H : M.Arr w b T L) : w.there b 0 L.length := fun j hj => by
  rw [Nat.zero_add]
  exact ⟨by rw [H.row.cell j hj]; rfl, H.row.free j hj⟩
/-- A whole array is stored into a block of as many bytes. -/
theorem M.Arr.store {P : Program} {w : World} {b : Nat} {T : TypeId} {L : List UInt8} (H : M.Arr w b T L) (X : List UInt8) (h : L.length = X.length) :
    ∃ W, (storeCells ⟨b, 0, none⟩ (X.map M.u8)).run P w = .ok () W ∧ M.Arr W b T X ∧ ∀ (B : Nat) (a : World), B ≤ b → Below B a w → Below B a W := by
  have hr := run_storeCells_cells (P := P) b 0 (X.map M.u8) 0 w (fun j hj => by rw [List.length_map, ← h] at hj; simpa using (H.there j hj).1) (fun j hj => by rw [List.length_map, ← h] at hj; simpa using (H.there j hj).2)
    (fun v hv => by obtain ⟨c, _, rfl⟩ := List.mem_map.1 hv; rfl)
  simp only [Nat.add_zero] at hr
  refine ⟨_, hr, ?_, fun B a hB hb => Lib.below_setCells _ hB _ _ hb⟩
  have := M.Arr.setCells X 0 _ _ H (by omega)
  rwa [M.over_all h] at this
theorem M.arr_made (w : World) (T : TypeId) (L : List UInt8) : M.Arr (w.alloc (.cells (L.map M.u8).toArray T)) w.heap.size T L := heap_alloc_last w _
theorem M.one_cell (L : List UInt8) : (L.map M.u8).toArray.all (·.oneCell') = true := by
  apply Array.all_eq_true_iff_forall_mem.2
  intro v hv
  simp only [List.mem_toArray, List.mem_map] at hv
  obtain ⟨c, _, rfl⟩ := hv
  rfl
end Go.Proofs.YtephjmlcbpfnaaaGreatDoor

/-
  What l03Octal and Octal of the specification do: digits to the base of eight.
-/
namespace Go.Proofs.YtephjmlcbpfnaaaGreatDoor
open Go.RowKit

/-- A block holds just these bytes. -/
def M.Bytes (w : World) (h : Nat) (L : List UInt8) : Prop := w.heap[h]? = some (.cells (L.map M.u8).toArray 5 (0, 0))
theorem M.Bytes.lt {w : World} {h : Nat} {L : List UInt8} (H : M.Bytes w h L) : h < w.heap.size := (Array.getElem?_eq_some_iff.1 H).1
theorem M.Bytes.cell {w : World} {h : Nat} {L : List UInt8} (H : M.Bytes w h L) (i : Nat) (hi : i < L.length) : w.cell? ⟨h, i, none⟩ = some (M.u8 L[i]) := by
  unfold M.Bytes at H
  simp [World.cell?, H, hi]
theorem M.Bytes.free {w : World} {h : Nat} {L : List UInt8} (H : M.Bytes w h L) (i : Nat) : w.frozen? ⟨h, i, none⟩ = false := by
  unfold M.Bytes at H
  simp [World.frozen?, H]
theorem M.Bytes.set {w : World} {h : Nat} {L : List UInt8} (H : M.Bytes w h L) (i : Nat) (c : UInt8) : M.Bytes (w.setCell ⟨h, i, none⟩ (M.u8 c)) h (L.set i c) := by
  unfold M.Bytes at H ⊢
  simp only [World.setCell, Array.getElem?_modify, H]
  simp [List.map_set]
theorem M.Bytes.made {w : World} {base h n : Nat} (H : w.ownsRow base 5 1 (.slice (some ⟨h, 0, none⟩) n n) n (List.replicate n (.int .u8 0))) : M.Bytes w h (List.replicate n 0) := by
  obtain ⟨hl, h0 | ⟨g, cp, cur, hv, hb, hh, hn, hc, hz, ht⟩⟩ := H
  · simp at h0
  · simp only [Value.slice.injEq, Option.some.injEq, Addr.mk.injEq] at hv
    obtain ⟨⟨rfl, _, _⟩, _, rfl⟩ := hv
    unfold M.Bytes
    rw [hh]
    have : cur = ((List.replicate n (0 : UInt8)).map M.u8).toArray := by
      apply Array.toList_inj.1
      rw [List.take_of_length_le (by simp [hz])] at ht
      rw [ht]
      simp [M.u8]
    rw [this]
theorem M.made_zero (z : Value) (n : Nat) : (madeCells #[z] n).toList = List.replicate n z := by
  apply List.ext_getElem
  · simp [madeCells]
  · intro i h1 h2
    simp [madeCells, Nat.mod_one]
theorem M.conv_all {w : World} {h : Nat} {L : List UInt8} (H : M.Bytes w h L) : (convert 61 9 (.slice (some ⟨h, 0, none⟩) L.length L.length)).run Tryz.prog w = .ok (.string ⟨L.toArray⟩) w := by
  refine run_convert_bytes_back w _ _ 5 _ _ L Tryz.underlying61 Tryz.underlying5 Tryz.underlying9 fun j hj => ?_
  rw [Addr.add_lit, Nat.zero_add]
  exact H.cell j hj
theorem Tryz.infoB8 : (Tryz.prog.info? 5).map (fun i => (i.zero, i.size, i.bytes)) = some (some (.int .u8 0), 1, 1) := by kernel_rfl

set_option maxRecDepth 100000 in
set_option maxHeartbeats 1600000 in
theorem sOct_any (n d : Nat) (w : World) (hn : n ≤ 9223372036854775807) (hd : d ≤ 1000) :
    Calls Tryz.prog 103 #[.int .i64 n, .int .i64 d] w fun e w' => e = .returned (.string (M.octB n d)) ∧ Below w.heap.size w w' := by
  obtain ⟨i0, hi, hz0, hz1, hz2⟩ := info_parts Tryz.infoB8
  go_enter Tryz.func103, Tryz.ntmps103
  go_wp2_with (at_make; refine wpList_make_full _ rfl (.tmp 7) (.tmp 7) 61 rfl w.heap.size 5 i0 _ 1 Tryz.underlying61 hi hz0 hz1 .i64 .i64 _ _ d rfl rfl rfl rfl ?c3 ?c4 ?c5 ?_)
  case c3 => rw [hz2]; omega
  case c4 => unfold maxLen; omega
  case c5 => exact Nat.le_refl _
  intro w1 hown hgrow
  rw [M.made_zero] at hown
  have HB1 : Hid (M.Bytes w1 w.heap.size (List.replicate d 0)) := M.Bytes.made hown
  have HW1 : Hid (Below w.heap.size w w1) := ⟨hgrow.os, hgrow.tape, hgrow.output, hgrow.size, fun k hk => hgrow.block k hk (by simp)⟩
  clear hown hgrow
  go_wp2
  go_loopw [0, 6] (fun x y wr => ∃ (k j N : Nat), x = .int .i64 N ∧ y = .int .i64 ((k : Int) - 1) ∧ k + j = d ∧ N ≤ n ∧ Hid (N = n / 8 ^ j) ∧ Hid (M.Bytes wr w.heap.size (List.replicate k 0 ++ M.octT j n)) ∧ Hid (Below w.heap.size w wr)) (fun _ y _ => (intOf y + 1).toNat)
  case atStart => exact ⟨d, 0, n, rfl, by go_num, rfl, Nat.le_refl _, by show _ = _; simp, by show M.Bytes _ _ _; rw [M.octT, List.append_nil]; exact HB1.out, HW1⟩
  case round =>
    obtain ⟨k, j, N, rfl, rfl, hkj, hN, HN, HBr, HWr⟩ := hrel
    cases k with
    | zero =>
      have e0 : ((0 : Nat) : Int) - 1 = -1 := rfl
      rw [e0]
      clear e0
      have hjd : j = d := by omega
      subst hjd
      have hB := HBr.out
      simp only [List.replicate_zero, List.nil_append] at hB
      have hcv := M.conv_all hB
      rw [M.octT_len] at hcv
      by_cases hz : N = 0
      · have hE : Hid (M.octB n j = ⟨(M.octT j n).toArray⟩) := by show _ = _; unfold M.octB; rw [if_pos (by rw [← HN.out]; exact hz)]
        subst hz
        clear hB
        go_wp2
        go_ret
        exact ⟨by rw [hE.out]; rfl, HWr.out⟩
      · have hE : Hid (M.octB n j = ⟨#[]⟩) := by show _ = _; unfold M.octB; rw [if_neg (by rw [← HN.out]; exact hz)]
        have hp : 0 < N := by omega
        clear hB hcv hz
        go_wp2
        go_ret
        exact ⟨by rw [hE.out]; rfl, HWr.out⟩
    | succ m =>
      have e0 : ((m + 1 : Nat) : Int) - 1 = (m : Int) := by omega
      rw [e0]
      clear e0
      have hmd : (m : Int) < (d : Int) := by omega
      obtain ⟨c, hc⟩ : ∃ c, c = UInt8.ofNat (48 + N % 8) := ⟨_, rfl⟩
      have hcn : (c.toNat : Int) = 48 + (N : Int) % 8 := by
        rw [hc, UInt8.toNat_ofNat', Nat.mod_eq_of_lt (show 48 + N % 8 < 2 ^ 8 by omega)]; omega
      have hset := HBr.out.set m c
      rw [M.set_oct m j n c (by rw [hc, HN.out])] at hset
      unfold M.u8 at hset
      rw [hcn] at hset
      have HB2 : Hid (M.Bytes (wr.setCell ⟨w.heap.size, m, none⟩ (.int .u8 (48 + (N : Int) % 8))) w.heap.size (List.replicate m 0 ++ M.octT (j + 1) n)) := hset
      have g0 := HBr.out.cell m (by simp; omega)
      have f0 := HBr.out.free m
      generalize M.u8 _ = v0 at g0
      have HN2 : Hid (N / 8 = n / 8 ^ (j + 1)) := by show _ = _; rw [HN.out, M.div_step]
      have HW2 : Hid (Below w.heap.size w (wr.setCell ⟨w.heap.size, m, none⟩ (.int .u8 (48 + (N : Int) % 8)))) := HWr.out.setCell (Nat.le_refl _) _
      clear hset hcn hc HBr HWr
      go_wp2
      go_roundw
      case rel => exact ⟨m, j + 1, N / 8, by go_num, by go_num, by omega, by omega, HN2, HB2, HW2⟩
      case measure => simp [intOf]
end Go.Proofs.YtephjmlcbpfnaaaGreatDoor

/-
  What l03Sum of the specification does.
-/
namespace Go.Proofs.YtephjmlcbpfnaaaGreatDoor
open Go.RowKit

set_option maxRecDepth 100000 in
set_option maxHeartbeats 1600000 in
theorem sSum_any (s : ByteArray) (w : World) (hs : s.size ≤ 1000000) :
    Calls Tryz.prog 104 #[.string s] w fun e w' => e = .returned (.int .i64 (M.sumH s)) ∧ w = w' := by
  go_enter Tryz.func104, Tryz.ntmps104
  go_wp2
  go_loop [3, 4] (fun x i => ∃ k n : Nat, k ≤ s.size ∧ i = .int .i64 k ∧ x = .int .i64 n ∧ n ≤ 255 * k ∧ Hid (n = M.sumK s k)) (fun _ i => s.size - (intOf i).toNat)
  case atStart => exact ⟨0, 0, Nat.zero_le _, rfl, rfl, Nat.zero_le _, rfl⟩
  case round =>
    obtain ⟨k, n, hk, rfl, rfl, hn, HV⟩ := hrel
    by_cases hlt : k < s.size
    · have hle := M.sumK_le s (k + 1)
      rcases (show (148 ≤ k ∧ k < 156) ∨ k < 148 ∨ 156 ≤ k from by omega) with ⟨ha, hb⟩ | ha | ha
      · have HV2 : Hid (n + 32 = M.sumK s (k + 1)) := by show _ = _; rw [M.sumK_in ha hb, HV.out]
        have hn2 : n + 32 ≤ 255 * (k + 1) := by rw [HV2.out]; exact hle
        have e2 : decide ((k : Int) < 156) = true := decide_eq_true (by omega)
        clear hle
        go_wp2
        go_round
        case rel => exact ⟨k + 1, n + 32, by omega, by go_num, by go_num, hn2, HV2⟩
        case measure => simp [intOf]; omega
      · have HV2 : Hid (n + (s[k]'hlt).toNat = M.sumK s (k + 1)) := by show _ = _; rw [M.sumK_out hlt (.inl ha), HV.out]
        have hn2 : n + (s[k]'hlt).toNat ≤ 255 * (k + 1) := by rw [HV2.out]; exact hle
        clear hle
        go_wp2
        go_round
        case rel => exact ⟨k + 1, n + (s[k]'hlt).toNat, by omega, by go_num, by go_num, hn2, HV2⟩
        case measure => simp [intOf]; omega
      · have HV2 : Hid (n + (s[k]'hlt).toNat = M.sumK s (k + 1)) := by show _ = _; rw [M.sumK_out hlt (.inr ha), HV.out]
        have hn2 : n + (s[k]'hlt).toNat ≤ 255 * (k + 1) := by rw [HV2.out]; exact hle
        have e2 : decide ((k : Int) < 156) = false := decide_eq_false (by omega)
        clear hle
        go_wp2
        go_round
        case rel => exact ⟨k + 1, n + (s[k]'hlt).toNat, by omega, by go_num, by go_num, hn2, HV2⟩
        case measure => simp [intOf]; omega
    · have hE : Hid (M.sumH s = n) := by
        show _ = _
        unfold M.sumH
        rw [HV.out, show k = s.size by omega]
      go_wp2
      go_ret
      exact ⟨by rw [hE.out]; rfl, rfl⟩

end Go.Proofs.YtephjmlcbpfnaaaGreatDoor

/-
  What l03Zeros of the specification does.
-/
namespace Go.Proofs.YtephjmlcbpfnaaaGreatDoor
open Go.RowKit

set_option maxRecDepth 100000 in
set_option maxHeartbeats 800000 in
theorem sZeros_any (n : Nat) (w : World) (hn : n ≤ 100000) :
    Calls Tryz.prog 102 #[.int .i64 n] w fun e w' => e = .returned (.string (M.zerosB n)) ∧ Below w.heap.size w w' := by
  obtain ⟨i0, hi, hz0, hz1, hz2⟩ := info_parts Tryz.infoB8
  go_enter Tryz.func102, Tryz.ntmps102
  go_wp2_with (at_make; refine wpList_make_full _ rfl _ _ 61 rfl w.heap.size 5 i0 _ 1 Tryz.underlying61 hi hz0 hz1 .i64 .i64 _ _ n rfl rfl rfl rfl ?c3 ?c4 ?c5 ?_)
  case c3 => rw [hz2]; omega
  case c4 => unfold maxLen; omega
  case c5 => exact Nat.le_refl _
  intro w1 hown hgrow
  rw [M.made_zero] at hown
  have hcv := M.conv_all (M.Bytes.made hown)
  rw [List.length_replicate] at hcv
  have HW1 : Hid (Below w.heap.size w w1) := ⟨hgrow.os, hgrow.tape, hgrow.output, hgrow.size, fun k hk => hgrow.block k hk (by simp)⟩
  clear hown hgrow
  have hE : Hid ((⟨(List.replicate n 0).toArray⟩ : ByteArray) = M.zerosB n) := rfl
  generalize (⟨(List.replicate n 0).toArray⟩ : ByteArray) = z at hcv hE
  go_wp2
  go_ret
  exact ⟨by rw [← hE.out]; rfl, HW1.out⟩
end Go.Proofs.YtephjmlcbpfnaaaGreatDoor

/-
  What l01Dec, l03Record and l03Fill of the specification do.
-/
namespace Go.Proofs.YtephjmlcbpfnaaaGreatDoor
open Go.RowKit

theorem M.s1' {a w v : World} (h : Below a.heap.size a w) (h' : Below w.heap.size w v) : Below a.heap.size a v := h.trans (h'.mono h.size)

set_option maxRecDepth 100000 in
set_option maxHeartbeats 1600000 in
theorem sDec_any (n : Nat) (w : World) (h1 : 100 ≤ n) (h2 : n ≤ 999) :
    Calls Tryz.prog 186 #[.int .i64 n] w fun e w' => e = .returned (.string (M.decB n)) ∧ Below w.heap.size w w' := by
  have HL : Hid ((Lib.decDigits n).length = 3) := by show _ = _; rw [Lib.decDigits_length, M.nDigits3 h1 h2]
  have e0 : ((n : Int) == 0) = false := by rw [beq_eq_false_iff_ne]; omega
  have e1 : decide ((n : Int) < 0) = false := decide_eq_false (by omega)
  go_enter Tryz.func186, Tryz.ntmps186
  go_wp2
  go_loopw [0, 4] (fun x t wr => ∃ (N : Nat) (s : ByteArray), x = .int .i64 N ∧ t = .string s ∧ N ≤ n ∧ s.size ≤ 3 ∧ Hid (M.decI n N s.data.toList) ∧ Hid (Below w.heap.size w wr)) (fun x _ _ => (intOf x).toNat)
  case atStart => exact ⟨n, ⟨#[]⟩, rfl, rfl, Nat.le_refl _, Nat.zero_le _, M.decI_start (by omega), Below.refl _ _⟩
  case round =>
    obtain ⟨N, s, rfl, rfl, hN, hs, HI, HB⟩ := hrel
    by_cases hz : N = 0
    · subst hz
      have hE : Hid (M.decB n = s) := by
        show _ = _
        unfold M.decB
        rw [← M.decI_end HI.out]
      go_wp2
      go_ret
      exact ⟨by rw [hE.out]; rfl, HB.out⟩
    · have hne : ((N : Int) != 0) = true := by rw [bne_iff_ne]; omega
      have H2 : Hid (M.decI n (N / 10) (UInt8.ofNat (48 + N % 10) :: s.data.toList)) := M.decI_step HI.out hz
      have hcv := M.conv_byte wr (48 + (N : Int) % 10) (by omega) (by omega)
      obtain ⟨c, hc⟩ : ∃ c, c = UInt8.ofNat (48 + (N : Int) % 10).toNat := ⟨_, rfl⟩
      rw [← hc] at hcv
      have H3 : Hid (((⟨#[c]⟩ : ByteArray) ++ s).data.toList = UInt8.ofNat (48 + N % 10) :: s.data.toList) := by
        show _ = _
        rw [ByteArray.data_append, hc, show (48 + (N : Int) % 10).toNat = 48 + N % 10 by omega]
        simp
      have hsz2 : Hid (((⟨#[c]⟩ : ByteArray) ++ s).size ≤ 3) := by
        have := M.decI_len H2.out
        rw [HL.out] at this
        show _ ≤ _
        rw [Lib.size_eq, H3.out]; exact this
      have H4 : Hid (M.decI n (N / 10) ((⟨#[c]⟩ : ByteArray) ++ s).data.toList) := by show M.decI _ _ _; rw [H3.out]; exact H2.out
      have hwr : IntKind.u8.wrap (48 + (N : Int) % 10) = 48 + (N : Int) % 10 := by rw [IntKind.wrap_u8]; omega
      have d1 : decide ((N : Int) % 10 < 0) = false := decide_eq_false (by omega)
      have hp : 0 < N := by omega
      clear hc hz
      go_wp2
      go_roundw
      case rel => exact ⟨N / 10, _, by go_num, rfl, by omega, hsz2.out, H4, HB.out.alloc HB.out.size _⟩
      case measure => simp [intOf]; omega

set_option maxRecDepth 100000 in
set_option maxHeartbeats 1600000 in
theorem sRec_any (p : ByteArray) (w : World) (h1 : 100 < p.size) (h2 : p.size ≤ 900) :
    Calls Tryz.prog 170 #[.string p] w fun e w' => e = .returned (.string (M.recB p)) ∧ Below w.heap.size w w' := by
  have HD : Hid (∀ (n : Nat) W, 100 ≤ n → n ≤ 999 → Calls Tryz.prog 186 #[.int .i64 n] W fun e w' => ∃ t : ByteArray, Hid (t = M.decB n) ∧ t.size = 3 ∧ e = .returned (.string t) ∧ Below W.heap.size W w') := fun n W a b => (sDec_any n W a b).mono fun e w' h => ⟨_, rfl, M.decB_size a b, h.1, h.2⟩
  obtain ⟨r, hr⟩ : ∃ r, r = (⟨#[32, 112, 97, 116, 104, 61]⟩ : ByteArray) ++ p ++ ⟨#[10]⟩ := ⟨_, rfl⟩
  have hz : r.size = p.size + 7 := by rw [hr]; exact M.restB_size p
  have HE : Hid (∀ t, t = M.decB (p.size + 10) → t ++ r = M.recB p) := fun t ht => by rw [ht, hr]; rfl
  have hr' : (⟨#[32, 112, 97, 116, 104, 61]⟩ : ByteArray) ++ p ++ ⟨#[10]⟩ = r := hr.symm
  clear hr
  go_enter Tryz.func170, Tryz.ntmps170
  go_wp2
  go_loopw [4] (fun x wr => ∃ k : Nat, x = .int .i64 k ∧ p.size + 8 ≤ k ∧ k ≤ p.size + 10 ∧ Hid (Below w.heap.size w wr)) (fun x _ => p.size + 10 - (intOf x).toNat)
  case atStart => exact ⟨p.size + 8, by go_num, Nat.le_refl _, by omega, Below.refl _ _⟩
  case round =>
    obtain ⟨k, rfl, hk1, hk2, HB⟩ := hrel
    by_cases hk : k = p.size + 10
    · have d1 : ((k : Int) != (p.size : Int) + 7 + 3) = false := by rw [bne_eq_false_iff_eq]; omega
      have HK : Hid (k = p.size + 10) := hk
      clear hk
      go_wp2_with fail
      refine (HD.out k _ (by omega) (by omega)).mono ?_
      rintro e w1 ⟨t, _, ht, rfl, hb⟩
      have HB1 : Hid (Below w.heap.size w w1) := M.s1' HB.out hb
      clear hb HB
      go_wp2_with fail
      refine (HD.out k _ (by omega) (by omega)).mono ?_
      rintro e w2 ⟨u, hu, hu3, rfl, hb⟩
      have HB2 : Hid (Below w.heap.size w w2) := M.s1' HB1.out hb
      have HF : Hid (M.recB p = u ++ r) := (HE.out u (by rw [hu.out, HK.out])).symm
      clear hb HB1 hu
      go_wp2
      go_ret
      exact ⟨by rw [HF.out]; rfl, HB2.out⟩
    · have d1 : ((k : Int) != (p.size : Int) + 7 + 3) = true := by rw [bne_iff_ne]; omega
      have hk3 : k < p.size + 10 := by omega
      clear hk
      go_wp2_with fail
      refine (HD.out k _ (by omega) (by omega)).mono ?_
      rintro e w1 ⟨t, _, ht, rfl, hb⟩
      have HB1 : Hid (Below w.heap.size w w1) := M.s1' HB.out hb
      clear hb HB
      go_wp2
      go_roundw
      case rel => exact ⟨k + 1, by go_num, by omega, by omega, HB1⟩
      case measure => simp [intOf]; omega

set_option maxRecDepth 100000 in
set_option maxHeartbeats 800000 in
theorem sFill_any (t : ByteArray) (w : World) (h : t.size ≤ 100000) :
    Calls Tryz.prog 172 #[.string t] w fun e w' => e = .returned (.string (M.fillB t)) ∧ Below w.heap.size w w' := by
  have HZ : Hid (∀ W, Calls Tryz.prog 102 #[.int .i64 (M.fillN t.size : Nat)] W fun e w' => e = .returned (.string (M.zerosB (M.fillN t.size))) ∧ Below W.heap.size W w') := fun W => sZeros_any _ W (by have := M.fillN_lt t.size; omega)
  have hf : (512 - (t.size : Int) % 512) % 512 = (M.fillN t.size : Nat) := by unfold M.fillN; omega
  have hz : (M.zerosB (M.fillN t.size)).size ≤ 512 := by rw [M.zerosB_size]; have := M.fillN_lt t.size; omega
  go_enter Tryz.func172, Tryz.ntmps172
  go_wp2_with fail
  refine (HZ.out _).mono ?_
  rintro e w1 ⟨rfl, hb⟩
  have HB : Hid (Below w.heap.size w w1) := hb
  have HE : Hid (t ++ M.zerosB (M.fillN t.size) = M.fillB t) := rfl
  generalize M.zerosB (M.fillN t.size) = z at hz HE ⊢
  clear hb hf
  go_wp2
  go_ret
  exact ⟨by rw [← HE.out]; rfl, HB.out⟩
end Go.Proofs.YtephjmlcbpfnaaaGreatDoor

/-
  A header's bytes, with what the specification's walks want of their sizes.
-/
namespace Go.Proofs.YtephjmlcbpfnaaaGreatDoor
open Go.RowKit

theorem M.lt_of_al {w w' : World} {o : Obj} (hb : Below (w.alloc o).drew.heap.size (w.alloc o).drew w') : w.heap.size < w'.heap.size := by
  have h : (w.alloc o).heap.size ≤ w'.heap.size := hb.size
  rw [World.size_alloc] at h; omega
theorem M.s1 {a w v : World} (h : Below a.heap.size a w) (h' : Below w.heap.size w v) : Below a.heap.size a v := h.trans (h'.mono h.size)
theorem M.s2 {a w v : World} (h : Below a.heap.size a w) (h' : Below w.drew.heap.size w.drew v) : Below a.heap.size a v := M.s1 h.drew h'
theorem M.s3 {a w v : World} {o : Obj} (h : Below a.heap.size a w) (h' : Below (w.alloc o).heap.size (w.alloc o) v) : Below a.heap.size a v := M.s1 (h.alloc h.size o) h'
theorem M.s4 {a w v : World} {o : Obj} (h : Below a.heap.size a w) (h' : Below (w.alloc o).drew.heap.size (w.alloc o).drew v) : Below a.heap.size a v := M.s1 (h.alloc h.size o).drew h'
theorem M.lt_of_be {a : Nat} {w w' : World} (h : a < w.heap.size) (hb : Below w.heap.size w w') : a < w'.heap.size := Nat.lt_of_lt_of_le h hb.size
set_option maxRecDepth 100000 in
set_option maxHeartbeats 1600000 in
theorem sHeader_any (name : ByteArray) (size mode time kind : Nat) (w : World) (h0 : name.size ≤ 100) (h1 : size ≤ 9000000000) (h2 : mode ≤ 9000000000) (h3 : time ≤ 9000000000) (h4 : kind ≤ 255) :
    Calls Tryz.prog 171 #[.string name, .int .i64 size, .int .i64 mode, .int .i64 time, .int .i64 kind] w fun e w' => e = .returned (.string (M.head name size mode time kind)) ∧ Below w.heap.size w w' := by
  have HO : Hid (∀ (n d : Nat) W, n ≤ 9223372036854775807 → d ≤ 1000 → Calls Tryz.prog 103 #[.int .i64 n, .int .i64 d] W fun e w' => e = .returned (.string (M.octB n d)) ∧ Below W.heap.size W w') := fun n d W ha hb => sOct_any n d W ha hb
  have HZ : Hid (∀ (n : Nat) W, n ≤ 100000 → Calls Tryz.prog 102 #[.int .i64 n] W fun e w' => e = .returned (.string (M.zerosB n)) ∧ Below W.heap.size W w') := fun n W ha => sZeros_any n W ha
  have HT : Hid (∀ (n d : Nat) W, n ≤ 9223372036854775807 → d ≤ 1000 → Calls Tryz.prog 103 #[.int .i64 n, .int .i64 d] W fun e w' => ∃ t : ByteArray, Hid (t = M.octB n d) ∧ t.size ≤ d ∧ e = .returned (.string t) ∧ Below W.heap.size W w') := fun n d W ha hb => (sOct_any n d W ha hb).mono fun e w' h => ⟨_, rfl, M.octB_size n d, h.1, h.2⟩
  have HS : Hid (∀ (s : ByteArray) W, s.size ≤ 1000000 → Calls Tryz.prog 104 #[.string s] W fun e w' => e = .returned (.int .i64 (M.sumH s)) ∧ W = w') := fun s W ha => sSum_any s W ha
  have HB : Hid (∀ x : ByteArray, x.size ≤ 2000 → M.sumH x ≤ 9223372036854775807) := fun x h => Nat.le_trans (M.sumK_le x x.size) (by omega)
  have z1 : (M.zerosB (100 - name.size)).size ≤ 100 := by rw [M.zerosB_size]; omega
  have z2 : (M.zerosB 100).size ≤ 100 := by rw [M.zerosB_size]; omega
  have z3 : (M.zerosB 247).size ≤ 247 := by rw [M.zerosB_size]; omega
  have z4 : (M.zerosB 8).size ≤ 8 := by rw [M.zerosB_size]; omega
  have o0 := M.octB_size 0 7
  have o1 := M.octB_size mode 7
  have o2 := M.octB_size size 11
  have o3 := M.octB_size time 11
  go_enter Tryz.func171, Tryz.ntmps171
  go_wp2_with fail
  refine (HO.out 0 7 _ (by omega) (by omega)).mono ?_
  rintro e w1 ⟨rfl, hb⟩
  have B1 : Hid (Below w.heap.size w w1) := hb
  clear hb
  have hsub : (100 : Int) - (name.size : Int) = ((100 - name.size : Nat) : Int) := by omega
  go_wp2_with fail
  refine (HZ.out (100 - name.size) _ (by omega)).mono ?_
  rintro e w2 ⟨rfl, hb⟩
  have B2 : Hid (Below w.heap.size w w2) := B1.out.trans (hb.mono B1.out.size)
  clear hb B1
  clear hsub
  go_wp2_with fail
  refine (HO.out mode 7 _ (by omega) (by omega)).mono ?_
  rintro e w3 ⟨rfl, hb⟩
  have B3 : Hid (Below w.heap.size w w3) := B2.out.trans (hb.mono B2.out.size)
  clear hb B2
  go_wp2_with fail
  refine (HO.out size 11 _ (by omega) (by omega)).mono ?_
  rintro e w4 ⟨rfl, hb⟩
  have B4 : Hid (Below w.heap.size w w4) := B3.out.trans (hb.mono B3.out.size)
  clear hb B3
  go_wp2_with fail
  refine (HO.out time 11 _ (by omega) (by omega)).mono ?_
  rintro e w5 ⟨rfl, hb⟩
  have B5 : Hid (Below w.heap.size w w5) := B4.out.trans (hb.mono B4.out.size)
  clear hb B4
  have hcv : ∀ (W : World) (b : Nat), W.cell? ⟨b, 0, none⟩ = some (.int .u8 (IntKind.u8.wrap (kind : Int))) → (convert 61 9 (.slice (some ⟨b, 0, none⟩) 1 1)).run Tryz.prog W = .ok (.string ⟨#[UInt8.ofNat (kind : Int).toNat]⟩) W := by
    intro W b h
    have hwr : IntKind.u8.wrap (kind : Int) = (kind : Int) := by rw [IntKind.wrap_u8]; omega
    rw [hwr] at h
    refine run_convert_bytes_back _ _ _ 5 _ 1 [UInt8.ofNat (kind : Int).toNat] Tryz.underlying61 Tryz.underlying5 Tryz.underlying9 fun j hj => ?_
    have hj0 : j = 0 := by simp at hj; omega
    subst hj0
    rw [Addr.add_lit, Nat.zero_add]
    have e : ((UInt8.ofNat (kind : Int).toNat).toNat : Int) = kind := by
      rw [UInt8.toNat_ofNat', Nat.mod_eq_of_lt (show (kind : Int).toNat < 2 ^ 8 by omega)]; omega
    rw [h]
    simp only [List.getElem_cons_zero, e]
  go_wp2_with fail
  go_region_with (go_at_call 102; first | (refine (HZ.out 100 _ (by omega)).mono ?_; rintro e wz ⟨rfl, hz⟩; have hzc := fun (p : Addr) h => hz.cell (p := p) h; first | have hzq := M.lt_of_al hz | have hzq := M.lt_of_be (by assumption) hz | skip) | (refine (HZ.out 247 _ (by omega)).mono ?_; rintro e wy ⟨rfl, hy⟩; have hyc := fun (p : Addr) h => hy.cell (p := p) h; first | have hyq := M.lt_of_al hy | have hyq := M.lt_of_be (by assumption) hy | skip))
  all_goals
    clear hzc hyc
    go_wp2_with fail
    refine (HZ.out 8 _ (by omega)).mono ?_
    rintro e w6 ⟨rfl, hb⟩
    have B6 : Hid (Below w.heap.size w w6) := by
      first
        | exact M.s1 (M.s1 (M.s4 B5.out hz) hy) hb
        | exact M.s1 (M.s3 (M.s2 B5.out hz) hy) hb
        | exact M.s3 (M.s1 (M.s2 B5.out hz) hy) hb
        | exact M.s1 (M.s1 (M.s4 B5.out hy) hz) hb
        | exact M.s1 (M.s3 (M.s2 B5.out hy) hz) hb
        | exact M.s3 (M.s1 (M.s2 B5.out hy) hz) hb
    clear hb hz hy
    go_wp2_with fail
    refine (HS.out _ _ (by simp only [ByteArray.size_append, show ByteArray.size ⟨#[0]⟩ = 1 from rfl, show ByteArray.size ⟨#[117, 115, 116, 97, 114, 0, 48, 48]⟩ = 8 from rfl, show ∀ c, ByteArray.size ⟨#[c]⟩ = 1 from fun _ => rfl]; omega)).mono ?_
    rintro e w7 ⟨rfl, rfl⟩
    go_wp2_with fail
    refine (HT.out _ 6 _ (HB.out _ (by simp only [ByteArray.size_append, show ByteArray.size ⟨#[0]⟩ = 1 from rfl, show ByteArray.size ⟨#[117, 115, 116, 97, 114, 0, 48, 48]⟩ = 8 from rfl, show ∀ c, ByteArray.size ⟨#[c]⟩ = 1 from fun _ => rfl]; omega)) (by omega)).mono ?_
    rintro e w8 ⟨t, ht, htz, rfl, hb⟩
    have B8 : Hid (Below w.heap.size w w8) := M.s1 B6.out hb
    clear hb B6
    go_wp2_with fail
    go_ret
    refine ⟨?_, B8.out⟩
    rw [ht.out]
    rfl
end Go.Proofs.YtephjmlcbpfnaaaGreatDoor
