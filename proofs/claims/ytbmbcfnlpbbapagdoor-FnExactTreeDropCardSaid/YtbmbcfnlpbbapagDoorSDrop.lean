/-
  What l02Copy, l02Below and TreeDrop of the specification do.
-/
import Derived.Test.YtbmbcfnlpbbapagDoorDropSpecMath
import Derived.WalkKit
import Derived.WalkSpells
import Derived.WalkLawsBesides
namespace Go.Proofs.YtbmbcfnlpbbapagDoor
open Go.RowKit

theorem M.oneCellFs (fs : List M.FileD) : ∀ v ∈ M.cellsF fs, v.oneCell' = true := by
  intro v hv
  obtain ⟨f, _, h⟩ := List.mem_flatMap.1 hv
  exact M.oneCellF f v h

set_option maxRecDepth 100000 in
set_option maxHeartbeats 1600000 in
theorem sCopy_any (w : World) (b off len cap : Nat) (fs : List M.FileD) (h : M.Files w (some ⟨b, off, none⟩) len cap fs) (hlen : len ≤ 1048576) :
    Calls Tryd.prog 33 #[.slice (some ⟨b, off, none⟩) len cap] w fun e w' => ∃ v, e = .returned v ∧ M.Own w' w.heap.size 31 v fs ∧ Below w.heap.size w w' := by
  obtain ⟨i0, hi, hz0, hz1, hz2⟩ := info_parts Tryd.infoF
  have HFL : Hid (len = fs.length) := h.1
  have HAT : Hid (M.FilesAt w b off fs) := by
    by_cases h0 : 0 < len
    · obtain ⟨b', off', e, hat⟩ := h.2.2.2 h0
      cases e; exact hat
    · intro i hi
      have := h.1; omega
  clear h
  go_enter Tryd.func33, Tryd.ntmps33
  go_wp2_with (at_builtin; refine wpList_append_own _ rfl (.tmp 3) (.tmp 4) 26 rfl w.heap.size 31 i0 (.agg #[.string ⟨#[]⟩, .bool false, .int .i64 0, .int .i64 0, .string ⟨#[]⟩]) 5 56 Tryd.underlying26 hi hz0 hz1 hz2 rfl (by decide) _ 0 [] rfl ⟨rfl, .inr ⟨_, 0, #[], rfl, Nat.le_refl _, heap_alloc_new _ _, Nat.le_refl _, by decide, rfl, rfl⟩⟩ ⟨b, off, none⟩ len cap (M.cellsF fs) rfl ?hl ?cl ?c2 ?c3 ?c4 ?c5 ?_)
  case hl => rw [M.cellsF_len, HFL.out]
  case cl => exact (HAT.out.below ((Below.refl _ w).alloc (Nat.le_refl _) _)).cells
  case c2 => exact M.oneCellFs fs
  case c3 => unfold maxLen; omega
  case c4 => omega
  case c5 => simp
  intro v' w1 hown hgrow _
  have HO : Hid (M.Own w1 w.heap.size 31 v' fs) := by
    show World.ownsRow _ _ _ _ _ _ _
    have := hown
    simp only [HFL.out] at this
    exact this
  have HB : Hid (Below w.heap.size w w1) := ((Below.refl _ w).alloc (Nat.le_refl _) _).grown hgrow (by simp) (fun j hj => by
    have : w.heap.size = j := by simpa [Value.ownBlock] using hj
    omega)
  clear hown hgrow
  go_wp2
  go_ret
  exact ⟨_, rfl, HO.out, HB.out⟩

set_option maxRecDepth 100000 in
set_option maxHeartbeats 1600000 in
theorem sBelow_any (q t : ByteArray) (w : World) (ht : t.size ≤ 9223372036854775807) :
    Calls Tryd.prog 34 #[.string q, .string t] w fun e w' => e = .returned (.bool (M.isBelow q t)) ∧ w = w' := by
  cases h1 : (q.toList == t.toList)
  case true =>
    have hE : Hid (M.isBelow q t = true) := by
      show _ = _
      unfold M.isBelow
      rw [decide_eq_true (M.bytes_eq (by simpa using h1))]; rfl
    go_enter Tryd.func34, Tryd.ntmps34
    go_wp2
    go_ret
    exact ⟨by rw [hE.out]; rfl, rfl⟩
  have hne : q ≠ t := fun e => by rw [e] at h1; simp at h1
  have hib : M.isBelow q t = Lib.hasPrefix q.data.toList (t.data.toList ++ [47]) := by unfold M.isBelow; rw [decide_eq_false hne]; rfl
  by_cases h2 : t.size < q.size
  case neg =>
    have hE : Hid (M.isBelow q t = false) := by
      show _ = _
      rw [hib]
      cases hp : Lib.hasPrefix q.data.toList (t.data.toList ++ [47])
      · rfl
      · obtain ⟨r, hr⟩ := (M.pre_iff _ _).1 hp
        have := congrArg List.length hr
        rw [M.len_size, List.length_append, M.len_size] at this
        simp at this; omega
    have d2 : decide ((t.size : Int) < (q.size : Int)) = false := decide_eq_false (by omega)
    clear hne hib
    go_enter Tryd.func34, Tryd.ntmps34
    go_wp2
    go_ret
    exact ⟨by rw [hE.out]; rfl, rfl⟩
  have d2 : decide ((t.size : Int) < (q.size : Int)) = true := decide_eq_true (by omega)
  cases h3 : ((q.extract 0 t.size).toList == t.toList)
  case false =>
    have hE : Hid (M.isBelow q t = false) := by
      show _ = _
      rw [hib]
      cases hp : Lib.hasPrefix q.data.toList (t.data.toList ++ [47])
      · rfl
      · exfalso
        obtain ⟨r, hr⟩ := (M.pre_iff _ _).1 hp
        have : (q.extract 0 t.size).toList = t.toList := by
          rw [ByteArray.toList_eq, ByteArray.toList_eq, Lib.extract_data, hr, List.drop_zero, Nat.sub_zero, List.take_append_of_le_length (by rw [M.len_size]; exact Nat.le_refl _), List.take_of_length_le (by rw [M.len_size]; exact Nat.le_refl _)]
        rw [this] at h3; simp at h3
    clear hne hib
    go_enter Tryd.func34, Tryd.ntmps34
    go_wp2
    go_ret
    exact ⟨by rw [hE.out]; rfl, rfl⟩
  have hsplit : q.data.toList = t.data.toList ++ q[t.size] :: q.data.toList.drop (t.size + 1) := by
    have e : (q.extract 0 t.size).toList = t.toList := by simpa using h3
    rw [ByteArray.toList_eq, ByteArray.toList_eq, Lib.extract_data, List.drop_zero, Nat.sub_zero] at e
    rw [← e, ← M.drop_at q t.size h2, List.take_append_drop]
  cases h4 : (((q[t.size]'h2).toNat : Int) == 47)
  · have hE : Hid (M.isBelow q t = false) := by
      show _ = _
      rw [hib]
      cases hp : Lib.hasPrefix q.data.toList (t.data.toList ++ [47])
      · rfl
      · exfalso
        obtain ⟨r, hr⟩ := (M.pre_iff _ _).1 hp
        rw [hr] at hsplit
        have := (List.cons.inj (List.append_cancel_left hsplit)).1
        rw [← this] at h4
        simp at h4
    clear hne hib hsplit
    go_enter Tryd.func34, Tryd.ntmps34
    go_wp2
    go_ret
    exact ⟨by rw [hE.out]; rfl, rfl⟩
  · have hE : Hid (M.isBelow q t = true) := by
      show _ = _
      rw [hib]
      refine (M.pre_iff _ _).2 ⟨q.data.toList.drop (t.size + 1), ?_⟩
      have : q[t.size]'h2 = 47 := UInt8.toNat_inj.1 (by have := beq_iff_eq.1 h4; show _ = 47; omega)
      rw [← this]; exact hsplit
    clear hne hib hsplit
    go_enter Tryd.func34, Tryd.ntmps34
    go_wp2
    go_ret
    exact ⟨by rw [hE.out]; rfl, rfl⟩
end Go.Proofs.YtbmbcfnlpbbapagDoor
