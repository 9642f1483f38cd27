/-
  A row of bytes that a call has made of a text, and makes longer.
-/
import Derived.Test.YtgppdhfhcnkfpaaPart8
import Derived.Lib.ConvBytes
import Derived.Laws.IdiomCopy
namespace Go.Proofs.Ytgppdhfhcnkfpaa
open Go.RowKit

/-- A slice in a row of the call's own that may be written holds these bytes. -/
def M.OwnM (w : World) (base : Nat) (v : Value) (L : List UInt8) : Prop :=
  ∃ g cap, v = .slice (some ⟨g, 0, none⟩) L.length cap ∧ base ≤ g ∧ g < w.heap.size ∧ L.length ≤ cap ∧ cap ≤ maxLen ∧ (∀ j (h : j < L.length), w.cell? ⟨g, j, none⟩ = some (M.u8 L[j])) ∧ ∀ j, j < cap → (w.cell? ⟨g, j, none⟩).isSome = true ∧ w.frozen? ⟨g, j, none⟩ = false
theorem M.OwnM.of_block {w w' : World} {base : Nat} {v : Value} {L : List UInt8} (h : M.OwnM w base v L) (hs : w.heap.size ≤ w'.heap.size) (hb : ∀ j, v.ownBlock = some j → w'.heap[j]? = w.heap[j]?) : M.OwnM w' base v L := by
  obtain ⟨g, cap, rfl, hg, hl, h1, h2, h3, h4⟩ := h
  have e := hb g rfl
  exact ⟨g, cap, rfl, hg, by omega, h1, h2, fun j hj => (World.cell?_of_block (a := ⟨g, j, none⟩) e).trans (h3 j hj), fun j hj => ⟨by rw [World.cell?_of_block (a := ⟨g, j, none⟩) e]; exact (h4 j hj).1, (World.frozen?_of_block (a := ⟨g, j, none⟩) e).trans (h4 j hj).2⟩⟩
theorem M.OwnM.lt {w : World} {base : Nat} {v : Value} {L : List UInt8} (h : M.OwnM w base v L) : ∀ j, v.ownBlock = some j → base ≤ j ∧ j < w.heap.size := by
  obtain ⟨g, cap, rfl, hg, hl, _⟩ := h
  intro j hj
  cases hj
  exact ⟨hg, hl⟩
theorem M.OwnM.below {w w' : World} {base : Nat} {v : Value} {L : List UInt8} (h : M.OwnM w base v L) (hb : Below w.heap.size w w') : M.OwnM w' base v L := h.of_block hb.size (fun j hj => hb.block j (h.lt j hj).2)
theorem M.OwnM.len {w : World} {base : Nat} {v : Value} {L : List UInt8} (h : M.OwnM w base v L) : ∃ a cap, v = .slice a L.length cap := by
  obtain ⟨g, cap, rfl, _⟩ := h
  exact ⟨_, _, rfl⟩
theorem M.OwnM.conv {w : World} {base : Nat} {v : Value} {L : List UInt8} (h : M.OwnM w base v L) : (convert 22 9 v).run Try.prog w = .ok (.string ⟨L.toArray⟩) w := by
  obtain ⟨g, cap, rfl, hg, hl, h1, h2, h3, h4⟩ := h
  refine run_convert_bytes_back w 22 9 5 ⟨g, 0, none⟩ cap L Try.underlying22 Try.underlying5 Try.underlying9 (fun i hi => ?_)
  rw [Addr.add_lit, Nat.zero_add]
  exact h3 i hi
/-- A text as bytes: a new row. -/
theorem M.own_of_text (w : World) (s : ByteArray) (hs : s.size ≤ maxLen) : ∃ v w', (convert 9 22 (.string s)).run Try.prog w = .ok v w' ∧ M.OwnM w' w.heap.size v s.data.toList ∧ Below w.heap.size w w' := by
  have hr := Lib.run_convert_string_bytes (P := Try.prog) w 9 22 5 s Try.underlying9 Try.underlying22 Try.underlying5
  have hge := grownCap_ge w s.size 0 5
  have hle := grownCap_le_maxLen w s.size 0 5 hs
  have hl : s.data.toList.length = s.size := by rw [← Lib.size_eq]
  have hsz := Lib.bytesWorld_size w 5 s
  have hcs : (Lib.bytesCells w 5 s).size = grownCap w s.size 0 5 := by
    unfold Lib.bytesCells
    simp only [Array.size_append, Array.size_map, Array.size_replicate]
    have : s.data.size = s.size := rfl
    omega
  refine ⟨_, _, hr, ⟨w.heap.size, grownCap w s.size 0 5, by rw [hl], Nat.le_refl _, by omega, by omega, hle, fun j hj => ?_, fun j hj => ?_⟩, ?_⟩
  · rw [Lib.bytesWorld_cell w 5 s j (by omega)]
    rw [List.getD_eq_getElem?_getD, List.getElem?_eq_getElem hj]
    rfl
  · have hn := Lib.bytesWorld_at_new w 5 s
    refine ⟨?_, ?_⟩
    · simp [World.cell?, hn, hcs, hj]
    · simp only [World.frozen?, hn, hcs]
      simp only [Bool.and_eq_false_iff, decide_eq_false_iff_not]
      left; omega
  · exact ⟨rfl, rfl, rfl, by omega, fun k hk => Lib.bytesWorld_at_old w 5 s k hk⟩
theorem M.grown_setCells (w : World) (g n : Nat) (vs : List Value) : w.grownBy (w.setCells g n vs) (some g) := by
  induction vs generalizing w n with
  | nil => exact ⟨rfl, rfl, rfl, Nat.le_refl _, fun _ _ _ => rfl⟩
  | cons v r ih =>
    have h := ih (w.setCell ⟨g, n, none⟩ v) (n + 1)
    have h0 : w.grownBy (w.setCell ⟨g, n, none⟩ v) (some g) := ⟨rfl, rfl, rfl, by simp [World.setCell], fun k _ hk => by
      simp only [World.setCell, Array.getElem?_modify]
      rw [if_neg (fun e => hk (by rw [e]))]⟩
    exact h0.trans h
theorem M.getElem_app {L X : List UInt8} {j : Nat} (h : j < (L ++ X).length) (hj : ¬ j < L.length) : (L ++ X)[j] = X[j - L.length]'(by rw [List.length_append] at h; omega) := List.getElem_append_right (by omega)
/-- A text's bytes behind those of such a row. -/
theorem M.run_append_m {w : World} {base : Nat} {v : Value} {L : List UInt8} (t u ty : TypeId) {i : TypeInfo} (ht : Try.prog.underlying t = some (.slice 5)) (hu : Try.prog.underlying u = some .string) (hi : Try.prog.info? 5 = some i) (hz : i.zero = some (.int .u8 0)) (hsize : i.size = 1) (hby : i.bytes = 1)
    (h : M.OwnM w base v L) (s : ByteArray) (h63 : L.length + s.size ≤ maxLen) (hbytes : L.length + s.size ≤ 140737488355328) (hbase : base ≤ w.heap.size) :
    ∃ v' w', (Builtin.append_ #[t, u] ty #[v, .string s]).run Try.prog w = .ok v' w' ∧ M.OwnM w' base v' (L ++ s.data.toList) ∧ w.grownBy w' v.ownBlock := by
  obtain ⟨g, cap, rfl, hg, hl, h1, h2, h3, h4⟩ := h
  have hsl : s.data.toList.length = s.size := by rw [← Lib.size_eq]
  by_cases hroom : L.length + s.size ≤ cap
  · have hf := Lib.run_firstCells_string (P := Try.prog) w 1 s
    have hst := run_storeCells_cells (P := Try.prog) g L.length (Lib.strCells s) 0 w (fun j hj => by rw [Lib.strCells_length] at hj; simpa using (h4 (L.length + j) (by omega)).1) (fun j hj => by rw [Lib.strCells_length] at hj; simpa using (h4 (L.length + j) (by omega)).2) (Lib.strCells_oneCell s)
    simp only [Nat.add_zero] at hst
    refine ⟨.slice (some ⟨g, 0, none⟩) (L.length + s.size) cap, w.setCells g L.length (Lib.strCells s), ?_, ⟨g, cap, by rw [List.length_append, hsl], hg, ?_, by rw [List.length_append, hsl]; exact hroom, h2, fun j hj => ?_, fun j hj => ?_⟩, ?_⟩
    · simp [Builtin.append_, run_underlying ht, run_underlying hu, sizeOf, typeInfo, hi, hsize, Builtin.lenOf, hroom, hf, Addr.add_lit, hst]
    · exact Nat.lt_of_lt_of_le hl (M.grown_setCells w g L.length _).size
    · by_cases hjl : j < L.length
      · rw [World.cell?_setCells_out g _ _ _ _ (fun _ _ => Or.inl hjl), List.getElem_append_left hjl]
        exact h3 j hjl
      · rw [M.getElem_app hj hjl]
        rw [List.length_append, hsl] at hj
        have := World.cell?_setCells_in g (Lib.strCells s) L.length w (fun j hj => by rw [Lib.strCells_length] at hj; exact (h4 (L.length + j) (by omega)).1) (j - L.length) (by rw [Lib.strCells_length]; omega)
        rw [show L.length + (j - L.length) = j by omega] at this
        rw [this]
        simp [Lib.strCells, M.u8]
    · refine ⟨?_, by rw [World.frozen?_setCells]; exact (h4 j hj).2⟩
      by_cases hin : L.length ≤ j ∧ j < L.length + s.size
      · have := World.cell?_setCells_in g (Lib.strCells s) L.length w (fun j hj => by rw [Lib.strCells_length] at hj; exact (h4 (L.length + j) (by omega)).1) (j - L.length) (by rw [Lib.strCells_length]; omega)
        rw [show L.length + (j - L.length) = j by omega] at this
        rw [this]; rfl
      · rw [World.cell?_setCells_out g _ _ _ _ (fun _ _ => by rw [Lib.strCells_length]; simp only; omega)]
        exact (h4 j hj).1
    · exact M.grown_setCells _ _ _ _
  · have hr := Lib.run_append_grow_string (P := Try.prog) w t u ty 5 i (.int .u8 0) ht hu hi hz ⟨g, 0, none⟩ L.length cap (L.map M.u8) (by rw [hsize, List.length_map, Nat.mul_one]) (fun j x hx => by
      rw [Addr.add_lit, Nat.zero_add]
      rw [List.getElem?_map] at hx
      cases hq : L[j]? with
      | none => rw [hq] at hx; cases hx
      | some c =>
        rw [hq] at hx
        obtain ⟨hj, rfl⟩ := List.getElem?_eq_some_iff.1 hq
        rw [h3 j hj]; exact hx) s (by omega) (by unfold maxLen at h63; omega) (by rw [hby]; exact growslice_fits (by omega) (by omega))
    have hge := grownCap_ge w (L.length + s.size) cap 5
    have hcm := grownCap_le_maxLen w (L.length + s.size) cap 5 h63
    refine ⟨_, _, hr, ⟨w.heap.size, grownCap w (L.length + s.size) cap 5, by rw [List.length_append, hsl], hbase, by simp, by rw [List.length_append, hsl]; exact hge, hcm, fun j hj => ?_, fun j hj => ?_⟩, ⟨rfl, rfl, rfl, by simp, fun k hk _ => heap_alloc_old w.drew _ hk⟩⟩
    · have hn := heap_alloc_new w.drew (.cells ((L.map M.u8).toArray ++ (Lib.strCells s).toArray ++ Builtin.zeroCells (Value.int .u8 0).cells (grownCap w (L.length + s.size) cap 5 - (L.length + s.size))) 5)
      have hn' : (w.drew.alloc (.cells ((L.map M.u8).toArray ++ (Lib.strCells s).toArray ++ Builtin.zeroCells (Value.int .u8 0).cells (grownCap w (L.length + s.size) cap 5 - (L.length + s.size))) 5)).heap[w.heap.size]? = _ := hn
      rw [cell_of_row _ _ j _ _ (0, 0) hn']
      have e2 : (L.map M.u8).toArray ++ (Lib.strCells s).toArray = ((L ++ s.data.toList).map M.u8).toArray := by simp [Lib.strCells, M.u8]
      rw [e2]
      rw [Array.getElem?_append_left (by simpa using hj), List.getElem?_toArray, List.getElem?_map, List.getElem?_eq_getElem hj]
      rfl
    · have hn := heap_alloc_new w.drew (.cells ((L.map M.u8).toArray ++ (Lib.strCells s).toArray ++ Builtin.zeroCells (Value.int .u8 0).cells (grownCap w (L.length + s.size) cap 5 - (L.length + s.size))) 5)
      have hn' : (w.drew.alloc (.cells ((L.map M.u8).toArray ++ (Lib.strCells s).toArray ++ Builtin.zeroCells (Value.int .u8 0).cells (grownCap w (L.length + s.size) cap 5 - (L.length + s.size))) 5)).heap[w.heap.size]? = _ := hn
      refine ⟨?_, by unfold World.frozen?; rw [hn']; simp⟩
      rw [cell_of_row _ _ j _ _ (0, 0) hn']
      have hz1 : (Value.int IntKind.u8 0).cells.size = 1 := rfl
      have hsz : ((L.map M.u8).toArray ++ (Lib.strCells s).toArray ++ Builtin.zeroCells (Value.int .u8 0).cells (grownCap w (L.length + s.size) cap 5 - (L.length + s.size))).size = grownCap w (L.length + s.size) cap 5 := by
        simp only [Array.size_append, List.size_toArray, size_zeroCells, hz1, List.length_map, Lib.strCells_length]
        omega
      rw [Array.getElem?_eq_getElem (by rw [hsz]; exact hj)]
      rfl
theorem M.wpList_append_m {w : World} {base : Nat} {L : List UInt8} {ops : Array Oper} {rest : List Oper} {o : Oper} {a : Act} {Q : Exit → Act → World → Prop} (hgd : o.guard = none) (sl x : Operand) (t u : TypeId)
    (ho : o.op = .call { callee := .builtin .append, args := #[sl, x], argTypes := #[t, u] }) {i : TypeInfo} (ht : Try.prog.underlying t = some (.slice 5)) (hu : Try.prog.underlying u = some .string) (hi : Try.prog.info? 5 = some i) (hz : i.zero = some (.int .u8 0)) (hsize : i.size = 1) (hby : i.bytes = 1)
    (v : Value) (hs : a.eval sl = v) (hown : M.OwnM w base v L) (s : ByteArray) (hx : a.eval x = .string s) (h63 : L.length + s.size ≤ maxLen) (hbytes : L.length + s.size ≤ 140737488355328) (hbase : base ≤ w.heap.size)
    (h : ∀ v' w', M.OwnM w' base v' (L ++ s.data.toList) → w.grownBy w' v.ownBlock → wpList Try.prog ops Q rest (a.put o.dst v') w') : wpList Try.prog ops Q (o :: rest) a w := by
  refine wpList_plain hgd fun K hK => ?_
  obtain ⟨v', w', hr, h2, h3⟩ := M.run_append_m t u o.type ht hu hi hz hsize hby hown s h63 hbytes hbase
  unfold Oper.wp execOp
  simp only [ho, resolve, invoke, builtin, Sem.run_bind, Sem.run_pure, Result.andThen_ok, List.map_toArray, List.map_cons, List.map_nil, hs, hx, hr]
  exact hK _ _ (h v' w' h2 h3)
end Go.Proofs.Ytgppdhfhcnkfpaa
