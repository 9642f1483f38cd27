/-
  What the program's headerFrom does.
-/
import Derived.Test.YtephjmlcbpfnaaaGreatDoorPart17
import Derived.Test.YtephjmlcbpfnaaaGreatDoorPart7
import Derived.Test.YtephjmlcbpfnaaaGreatDoorCurMath
import Derived.Lib.SlBuf
import Derived.ChangeKeysEq
import Derived.Laws.StructEq
namespace Go.Proofs.YtephjmlcbpfnaaaGreatDoor
open Go.RowKit

theorem M.hfrom_copy (s : ByteArray) (w : World) (hs : s.size = 512) : ∃ W, (Builtin.copy_ #[61, 9] 3 #[.slice (some ⟨w.heap.size + 1, 0, none⟩) 512 512, .string s]).run Tryz.prog ((w.alloc (.cells M.zer 113)).alloc (.cells M.zer 113)) = .ok (goInt s.size) W
    ∧ M.Arr W (w.heap.size + 1) 113 s.data.toList ∧ M.Arr W w.heap.size 113 (List.replicate 512 0) ∧ Below w.heap.size w W := by
  have h1 : M.Arr ((w.alloc (.cells M.zer 113)).alloc (.cells M.zer 113)) (w.heap.size + 1) 113 (List.replicate 512 0) := by
    have := M.arr_made (w.alloc (.cells M.zer 113)) 113 (List.replicate 512 0)
    rwa [World.size_alloc] at this
  have h0 : M.Arr ((w.alloc (.cells M.zer 113)).alloc (.cells M.zer 113)) w.heap.size 113 (List.replicate 512 0) :=
    heap_alloc2_old w _ _
  have hsz : s.data.toList.length = 512 := by rw [← Lib.size_eq]; exact hs
  have hr := run_copy_string (P := Tryz.prog) _ 61 9 3 5 (w.heap.size + 1) 0 512 512 s Tryz.underlying61 M.sizeU (by omega)
    (fun j hj => by rw [Nat.zero_add, h1.row.cell j (by rw [List.length_replicate]; omega)]; rfl) (fun j hj => by rw [Nat.zero_add]; exact h1.row.free j (by rw [List.length_replicate]; omega))
  refine ⟨_, hr, ?_, ?_, ?_⟩
  · have := M.Arr.setCells s.data.toList 0 _ _ h1 (by rw [List.length_replicate]; omega)
    have e : M.over (List.replicate 512 0) 0 s.data.toList = s.data.toList := M.over_all (by rw [List.length_replicate]; omega)
    rw [e] at this
    exact this
  · exact M.Arr.below (B := w.heap.size + 1) h0 (Lib.below_setCells _ (Nat.le_refl _) _ _ (Below.refl _ _)) (Nat.lt_succ_self _)
  · refine Lib.below_setCells _ (Nat.le_succ _) _ _ ?_
    exact ((Below.refl _ _).alloc (Nat.le_refl _) _).alloc (by simp) _

set_option maxRecDepth 100000 in
set_option maxHeartbeats 1600000 in
theorem iHFrom_any (s : ByteArray) (w : World) (hs : s.size = 512) :
    Calls Tryz.prog 112 #[.string s] w fun e w' => e = .returned (.agg (s.data.toList.map M.u8).toArray) ∧ Below w.heap.size w w' := by
  have hz := (zero_of_info Tryz.infoH).1
  have HI : Hid ((Tryz.prog.info? 113).map (·.size) = some 512) := (zero_of_info Tryz.infoH).2
  obtain ⟨W, hcp, H1, H0, HB⟩ := M.hfrom_copy s w hs
  obtain ⟨W3, hst, H3, hB3⟩ := M.Arr.store (P := Tryz.prog) H0 s.data.toList (by rw [List.length_replicate, ← Lib.size_eq]; omega)
  have HH : Hid (M.Arr W (w.heap.size + 1) 113 s.data.toList) := H1
  have HH3 : Hid (M.Arr W3 w.heap.size 113 s.data.toList ∧ Below w.heap.size w W3) := ⟨H3, hB3 _ _ (Nat.le_refl _) HB⟩
  clear H1 H0 HB H3 hB3
  go_enter Tryz.func112, Tryz.ntmps112
  go_wp2_with (refine wpList_load_row rfl 113 _ rfl (w.heap.size + 1) rfl _ _ _ _ HH.out Tryz.underlying113 rfl (by rw [HI.out]; simp [hs]) ?_)
  exact bodyPost_ret (results_cell_row Tryz.results112 _ _ w.heap.size _ _ _ _ rfl HH3.out.1 Tryz.underlying113 rfl (by rw [HI.out]; simp [hs])) rfl ⟨rfl, HH3.out.2⟩
end Go.Proofs.YtephjmlcbpfnaaaGreatDoor

/-
  Two arrays of bytes are equal, as '==' tells it, just where their bytes are the same.
-/
namespace Go.Proofs.YtephjmlcbpfnaaaGreatDoor
open Go.RowKit

theorem M.mapM_all {α β : Type} {f : α → Option β} {g : α → β} : ∀ (is : List α), (∀ i, i ∈ is → f i = some (g i)) → is.mapM f = some (is.map g)
  | [], _ => rfl
  | i :: is, h => by
    rw [List.mapM_cons, h i (List.mem_cons_self ..), M.mapM_all is (fun j hj => h j (List.mem_cons_of_mem _ hj))]
    rfl
def M.lit8 (c : UInt8) : List Lit := [.int .u8 (c.toNat : Int)]
theorem M.lit8_wf (c : UInt8) : (Lit.int .u8 (c.toNat : Int)).wf = true := by
  have h : c.toNat < 256 := c.toNat_lt
  generalize c.toNat = k at h
  have e : ∀ k : Fin 256, (Lit.int .u8 ((k.val : Nat) : Int)).wf = true := by
    set_option maxRecDepth 4000 in decide
  exact e ⟨k, h⟩
theorem M.lit8_flat : ∀ (L L' : List UInt8), L.length = L'.length → ((L.map M.lit8).flatten = (L'.map M.lit8).flatten ↔ L = L')
  | [], [], _ => by simp
  | [], c :: L', h => by simp at h
  | c :: L, [], h => by simp at h
  | c :: L, c' :: L', h => by
    have ih := M.lit8_flat L L' (by simpa using h)
    simp only [List.map_cons, List.flatten_cons, M.lit8, List.singleton_append, List.cons.injEq, Lit.int.injEq, true_and]
    rw [← ih]
    refine and_congr ⟨fun e => UInt8.toNat_inj.1 (by omega), fun e => by rw [e]⟩ Iff.rfl
theorem M.lits_row {P : Program} {e : TypeId} (he : P.underlying e = some (.int .u8)) (hc : P.cellsOf e = 1) (L : List UInt8) (d : Nat) :
    (List.range L.length).mapM (fun i => P.keyLits (d + 1) e (((L.map M.u8).toArray.toList.drop (i * P.cellsOf e)).take (P.cellsOf e))) = some (L.map M.lit8) := by
  have h := M.mapM_all (f := fun i => P.keyLits (d + 1) e (((L.map M.u8).toArray.toList.drop (i * P.cellsOf e)).take (P.cellsOf e))) (g := fun i => M.lit8 (L.getD i 0)) (List.range L.length) (fun i hi => by
    have hl : i < L.length := List.mem_range.1 hi
    have hd : ((L.map M.u8).drop i).take 1 = [M.u8 (L.getD i 0)] := by
      rw [List.drop_eq_getElem_cons (by simpa using hl)]
      simp [List.getD_eq_getElem?_getD, hl]
    simp only [hc, Nat.mul_one, hd]
    simp only [Program.keyLits, he, M.u8, M.lit8_wf, M.lit8, and_self, if_true])
  rw [h]
  congr 1
  refine List.ext_getElem (by simp) (fun i h1 h2 => ?_)
  have hl : i < L.length := by simpa using h1
  simp [List.getD_eq_getElem?_getD, hl]
theorem M.run_eqBytes {P : Program} (w : World) {t e : TypeId} {n : Nat} {i : TypeInfo} (hu : P.underlying t = some (.array n e)) (hi : P.info? e = some i)
    (he : P.underlying e = some (.int .u8)) (hc : P.cellsOf e = 1) (L L' : List UInt8) (hL : L.length = n) (hL' : L'.length = n) (d : Nat) :
    (Op.equalIn (d + 2) t (.agg (L.map M.u8).toArray) (.agg (L'.map M.u8).toArray)).run P w = .ok (decide (L = L')) w := by
  rw [run_equalIn_array (d := d + 1) (xs := (L.map M.u8).toArray) (ys := (L'.map M.u8).toArray) (hu := hu) (hi := hi)]
  have a := M.lits_row he hc L 0
  have b := M.lits_row he hc L' 0
  rw [hL] at a
  rw [hL'] at b
  obtain ⟨r, hr, hiff⟩ := run_eqItems_plain (w := w) d (by simp [Program.plainKey, he]) _ _ (List.range n) _ _ a b
  rw [hr]
  rw [M.lit8_flat L L' (by rw [hL, hL'])] at hiff
  congr 1
  cases r
  · have : ¬ L = L' := fun e => by simpa using hiff.2 e
    simp [this]
  · simp [hiff.1 rfl]
end Go.Proofs.YtephjmlcbpfnaaaGreatDoor

/-
  What headerHere of the program does.
-/
namespace Go.Proofs.YtephjmlcbpfnaaaGreatDoor
open Go.RowKit

theorem M.hidp {p : Prop} (h : p) : Hid p := h
theorem M.s1i' {a w v : World} (h : Below a.heap.size a w) (h' : Below w.heap.size w v) : Below a.heap.size a v := h.trans (h'.mono h.size)
theorem Tryz.infoU8 : ∃ i, Tryz.prog.info? 5 = some i := by
  have h := Tryz.infoU
  cases hq : Tryz.prog.info? 5 with
  | none => simp [hq] at h
  | some i => exact ⟨i, rfl⟩
theorem Tryz.cellsU8 : Tryz.prog.cellsOf 5 = 1 := by kernel_rfl
theorem Tryz.elH : Tryz.prog.underlying 113 = some (.array 512 5) := by kernel_rfl
theorem Tryz.guardH : Tryz.prog.eqGuardType Tryz.prog.depth 113 = false := by kernel_rfl
/-- Two headers held against one another. -/
theorem M.hdr_eq (L L' : List UInt8) (h : L.length = 512) (h' : L'.length = 512) (w : World) :
    (binOp .eql 113 (.agg (L.map M.u8).toArray) (.agg (L'.map M.u8).toArray)).run Tryz.prog w = .ok (.bool (decide (L = L'))) w := by
  obtain ⟨i, hi⟩ := Tryz.infoU8
  rw [run_eql_struct, M.run_eqBytes w Tryz.elH hi Tryz.underlying5 Tryz.cellsU8 L L' h h' 9998]
  rfl

set_option maxRecDepth 100000 in
set_option maxHeartbeats 1600000 in
theorem iHHere_short (g : Nat) (t : ByteArray) (k : Nat) (w : World) (H : M.Cur w g t k) (_ht : t.size ≤ 20000) (_hk : k * 512 ≤ 20000) (hlt : t.size < k * 512 + 512)
    (HL : ∀ W, M.Cur W g t k → Calls Tryz.prog 111 #[.pointer (some ⟨g, 0, none⟩)] W fun e w' => e = .returned (.int .i64 ((t.size : Int) - (k : Int) * 512)) ∧ ∃ n, w' = W.drewN n) :
    Calls Tryz.prog 82 #[.pointer (some ⟨g, 0, none⟩)] w fun e w' => e = .returned (.tuple #[.agg M.zer, .iface 105 (.agg #[.int .i64 4])]) ∧ Below w.heap.size w w' := by
  have hz := (zero_of_info Tryz.infoH).1
  have HI : Hid ((Tryz.prog.info? 113).map (·.size) = some 512) := (zero_of_info Tryz.infoH).2
  have HC : Hid (M.Cur (w.alloc (.cells M.zer 113)) g t k) := H.below ((Below.refl _ _).alloc (Nat.le_refl _) _)
  have HLL : Hid (∀ W, M.Cur W g t k → Calls Tryz.prog 111 #[.pointer (some ⟨g, 0, none⟩)] W fun e w' => e = .returned (.int .i64 ((t.size : Int) - (k : Int) * 512)) ∧ ∃ n, w' = W.drewN n) := HL
  clear HL H
  go_enter Tryz.func82, Tryz.ntmps82
  go_wp2_with fail
  refine (HLL.out _ HC.out).mono ?_
  rintro e w1 ⟨rfl, n, rfl⟩
  obtain ⟨W3, hst, H3, hB3⟩ := M.Arr.store (P := Tryz.prog) ((M.arr_made w 113 (List.replicate 512 0)).drewN n) (List.replicate 512 0) rfl
  have HH3 : Hid (M.Arr W3 w.heap.size 113 (List.replicate 512 0) ∧ Below w.heap.size w W3) := ⟨H3, hB3 _ _ (Nat.le_refl _) (below_drewN ((Below.refl _ _).alloc (Nat.le_refl _) _) n)⟩
  have hst' : (storeCells ⟨w.heap.size, 0, none⟩ M.zer.toList).run Tryz.prog ((w.alloc (.cells M.zer 113)).drewN n) = .ok () W3 := hst
  clear H3 hB3 hst
  go_wp2
  exact bodyPost_ret (M.results_row2 Tryz.results82 _ _ w.heap.size _ _ _ _ (.iface 105 (.agg #[.int .i64 4])) rfl rfl HH3.out.1 Tryz.underlying113 rfl (by rw [HI.out]; rfl)) rfl ⟨rfl, HH3.out.2⟩

theorem M.octR_le11' {s : ByteArray} (h : s.size ≤ 11) : M.octR s ≤ 8589934591 := by
  unfold M.octR
  split
  · next hh =>
    have h1 := M.octV_lt s.data.toList (fun c hc => List.all_eq_true.1 hh.2.2 c hc)
    have h2 : 8 ^ s.data.toList.length ≤ 8 ^ 11 := M.pow8_le (by rw [← Lib.size_eq]; exact h)
    omega
  · omega
theorem M.sizeL_le (L : List UInt8) : M.sizeL L ≤ 8589934591 := by
  unfold M.sizeL
  exact M.octR_le11' (by rw [M.ba_size]; unfold M.cutL; rw [List.length_take]; omega)
/-- The header is handed on from the one block to the other. -/
theorem M.Arr.move {P : Program} {w W : World} {r : Nat} {L : List UInt8} (h : L.length = 512) (H : M.Arr W r 113 (List.replicate 512 0)) (hr : w.heap.size ≤ r) (hb : Below w.heap.size w W) :
    ∃ W', (storeCells ⟨r, 0, none⟩ (L.map M.u8)).run P W = .ok () W' ∧ M.Arr W' r 113 L ∧ Below w.heap.size w W' := by
  obtain ⟨W', h1, h2, h3⟩ := M.Arr.store (P := P) H L (by rw [List.length_replicate, h])
  exact ⟨W', h1, h2, h3 _ _ hr hb⟩

set_option maxRecDepth 100000 in
set_option maxHeartbeats 1600000 in
theorem iHHere_long (g : Nat) (t : ByteArray) (k : Nat) (w : World) (H : M.Cur w g t k) (_ht : t.size ≤ 20000) (hlt : k * 512 + 512 ≤ t.size)
    (HL : ∀ W, M.Cur W g t k → Calls Tryz.prog 111 #[.pointer (some ⟨g, 0, none⟩)] W fun e w' => e = .returned (.int .i64 ((t.size : Int) - (k : Int) * 512)) ∧ ∃ n, w' = W.drewN n)
    (HH : ∀ W, M.Cur W g t k → Calls Tryz.prog 113 #[.pointer (some ⟨g, 0, none⟩), .int .i64 512] W fun e w' => e = .returned (.string (t.extract (k * 512) (k * 512 + 512))) ∧ Below W.heap.size W w')
    (HF : ∀ b L W, L.length = 512 → M.Arr W b 113 L → Calls Tryz.prog 114 #[.pointer (some ⟨b, 0, none⟩), .int .i64 148, .int .i64 8] W fun e w' => e = .returned (.string (M.ba (M.cutL L 148 8))) ∧ W = w')
    (HT : ∀ b L W, L.length = 512 → M.Arr W b 113 L → Below w.heap.size w W → Calls Tryz.prog 115 #[.pointer (some ⟨b, 0, none⟩)] W fun e w' => e = .returned (.string (M.octB (M.sumH ⟨L.toArray⟩) 6 ++ ⟨#[0, 32]⟩)) ∧ Below W.heap.size W w')
    (HS : ∀ b L W, L.length = 512 → M.Arr W b 113 L → Calls Tryz.prog 116 #[.pointer (some ⟨b, 0, none⟩)] W fun e w' => e = .returned (.int .i64 (M.sizeL L)) ∧ W = w')
    (HB : ∀ (n : Nat) W, n ≤ 100000000000 → Calls Tryz.prog 117 #[.int .i64 n] W fun e w' => e = .returned (.int .i64 ((n + 511) / 512 : Nat)) ∧ W = w') :
    Calls Tryz.prog 82 #[.pointer (some ⟨g, 0, none⟩)] w fun e w' => e = .returned (.tuple #[.agg ((M.hdrL t.data.toList (k * 512)).map M.u8).toArray, M.errI (M.hdrC t.data.toList (k * 512))]) ∧ Below w.heap.size w w' := by
  have htl : t.data.toList.length = t.size := by rw [← Lib.size_eq]
  obtain ⟨x, hx⟩ : ∃ x, x = t.extract (k * 512) (k * 512 + 512) := ⟨_, rfl⟩
  obtain ⟨L, hLx⟩ : ∃ L, L = x.data.toList := ⟨_, rfl⟩
  have hxs : x.size = 512 := by rw [hx, ByteArray.size_extract]; omega
  have hLl : L.length = 512 := by rw [hLx, ← Lib.size_eq]; exact hxs
  have hLc : M.cutL t.data.toList (k * 512) 512 = L := by
    rw [hLx, hx, M.cut_mk t (k * 512) (k * 512 + 512), show k * 512 + 512 - k * 512 = 512 by omega]; rfl
  have e1 : M.hdrL t.data.toList (k * 512) = L := by unfold M.hdrL; rw [if_neg (by omega), hLc]
  have e2 : M.hdrC t.data.toList (k * 512) = if L = List.replicate 512 0 then 0 else if M.sumOkL L = false then 5 else if M.sizeL L < 0 then 3 else if t.size < k * 512 + 512 + M.blk (M.sizeL L).toNat * 512 then 4 else 0 := by
    unfold M.hdrC; rw [if_neg (by omega), hLc, htl]
  rw [e1, e2]
  obtain ⟨V, hV⟩ : ∃ V, V = M.errI (if L = List.replicate 512 0 then 0 else if M.sumOkL L = false then 5 else if M.sizeL L < 0 then 3 else if t.size < k * 512 + 512 + M.blk (M.sizeL L).toNat * 512 then 4 else 0) := ⟨_, rfl⟩
  rw [← hV]
  obtain ⟨a, ha⟩ : ∃ a, a = k * 512 := ⟨_, rfl⟩
  rw [← hx] at HH
  rw [← ha] at hlt hV
  have HV := M.hidp hV
  have HAK : Hid (a = k * 512) := ha
  have hak : (k : Int) * 512 = (a : Int) := by omega
  rw [hak] at HL
  have HLL : Hid (∀ W, M.Cur W g t k → Calls Tryz.prog 111 #[.pointer (some ⟨g, 0, none⟩)] W fun e w' => e = .returned (.int .i64 ((t.size : Int) - (a : Int))) ∧ ∃ n, w' = W.drewN n) := HL
  have HHH : Hid (∀ W, M.Cur W g t k → Calls Tryz.prog 113 #[.pointer (some ⟨g, 0, none⟩), .int .i64 512] W fun e w' => e = .returned (.string x) ∧ Below W.heap.size W w') := HH
  have HFF := M.hidp HF
  have HTT := M.hidp HT
  have HSS := M.hidp HS
  have HBB := M.hidp HB
  have HFr : Hid (∀ W, Calls Tryz.prog 112 #[.string x] W fun e w' => e = .returned (.agg (L.map M.u8).toArray) ∧ Below W.heap.size W w') := fun W => by rw [hLx]; exact iHFrom_any x W hxs
  have hz := (zero_of_info Tryz.infoH).1
  have HI : Hid ((Tryz.prog.info? 113).map (·.size) = some 512) := (zero_of_info Tryz.infoH).2
  have HC : Hid (M.Cur w g t k) := H
  have HLN : Hid (L.length = 512) := hLl
  have hgd := Tryz.guardH
  clear HL HH HF HT HS HB H ha hak hLc hLx e1 e2 htl hx hLl
  have B0 : Hid (Below w.heap.size w (w.alloc (.cells M.zer 113))) := (Below.refl _ _).alloc (Nat.le_refl _) _
  go_enter Tryz.func82, Tryz.ntmps82
  go_wp2_with fail
  refine (HLL.out _ (HC.out.below B0.out)).mono ?_
  rintro e w1 ⟨rfl, n, rfl⟩
  have B1 : Hid (Below w.heap.size w ((w.alloc (.cells M.zer 113)).drewN n)) := below_drewN B0.out n
  have A1 : Hid (M.Arr ((w.alloc (.cells M.zer 113)).drewN n) w.heap.size 113 (List.replicate 512 0)) := (M.arr_made w 113 (List.replicate 512 0)).drewN n
  have d1 : decide ((t.size : Int) - (a : Int) < 512) = false := decide_eq_false (by omega)
  go_wp2_with fail
  refine (HHH.out _ (HC.out.below B1.out)).mono ?_
  rintro e w2 ⟨rfl, hb2⟩
  have B2 : Hid (Below w.heap.size w w2) := M.s1i' B1.out hb2
  have A2 : Hid (M.Arr w2 w.heap.size 113 (List.replicate 512 0)) := A1.out.below hb2 A1.out.lt
  clear hb2
  go_wp2_with fail
  refine (HFr.out _).mono ?_
  rintro e w3 ⟨rfl, hb3⟩
  have B3 : Hid (Below w.heap.size w w3) := M.s1i' B2.out hb3
  have A3 : Hid (M.Arr w3 w.heap.size 113 (List.replicate 512 0)) := A2.out.below hb3 A2.out.lt
  clear hb3
  obtain ⟨W4, hst, H4, hB4⟩ := M.Arr.store (P := Tryz.prog) (M.arr_made w3 113 (List.replicate 512 0)) L (by rw [List.length_replicate]; exact HLN.out.symm)
  have hst' : (storeCells ⟨w3.heap.size, 0, none⟩ (L.map M.u8)).run Tryz.prog (w3.alloc (.cells M.zer 113)) = .ok () W4 := hst
  have B4 : Hid (Below w.heap.size w W4) := hB4 _ _ B3.out.size (B3.out.alloc B3.out.size _)
  have hb34 := hB4 w3.heap.size w3 (Nat.le_refl _) ((Below.refl _ _).alloc (Nat.le_refl _) _)
  have A4 : Hid (M.Arr W4 w.heap.size 113 (List.replicate 512 0)) := A3.out.below hb34 A3.out.lt
  have X4 : Hid (M.Arr W4 w3.heap.size 113 L) := H4
  clear hst H4 hB4 hb34
  have hq : ∀ W, (binOp .eql 113 (.agg (L.map M.u8).toArray) (.agg M.zer)).run Tryz.prog W = .ok (.bool (decide (L = List.replicate 512 0))) W := fun W => M.hdr_eq L (List.replicate 512 0) HLN.out List.length_replicate W
  by_cases hzr : L = List.replicate 512 0
  · have HE : Hid (V = .nilIface) := by show _ = _; rw [HV.out, if_pos hzr]; rfl
    rw [decide_eq_true hzr] at hq
    clear hzr
    obtain ⟨W5, hs5, H5, B5⟩ := M.Arr.move (P := Tryz.prog) HLN.out A4.out (Nat.le_refl _) B4.out
    have H5H : Hid (M.Arr W5 w.heap.size 113 L ∧ Below w.heap.size w W5) := ⟨H5, B5⟩
    clear H5 B5
    go_wp2_with (refine wpList_load_row rfl 113 _ rfl w3.heap.size rfl _ _ _ _ X4.out Tryz.underlying113 rfl (by rw [HI.out]; simp [HLN.out]) ?_)
    exact bodyPost_ret (M.results_row2 Tryz.results82 _ _ w.heap.size _ _ _ _ .nilIface rfl rfl H5H.out.1 Tryz.underlying113 rfl (by rw [HI.out]; simp [HLN.out])) rfl ⟨by rw [HE.out], H5H.out.2⟩
  rw [decide_eq_false hzr] at hq
  have HNZ : Hid (¬ L = List.replicate 512 0) := hzr
  clear hzr
  obtain ⟨x8, hx8⟩ : ∃ x8, x8 = M.ba (M.cutL L 148 8) := ⟨_, rfl⟩
  obtain ⟨st, hst8⟩ : ∃ st, st = M.octB (M.sumH ⟨L.toArray⟩) 6 ++ (⟨#[0, 32]⟩ : ByteArray) := ⟨_, rfl⟩
  have HSO : Hid (M.sumOkL L = (x8.toList == st.toList)) := by
    show _ = _
    unfold M.sumOkL
    rw [Bool.eq_iff_iff, beq_iff_eq, decide_eq_true_iff, ByteArray.toList_eq, ByteArray.toList_eq, hx8, hst8, ByteArray.data_append, Array.toList_append, M.ba_list]
    rfl
  have CF : Hid (Calls Tryz.prog 114 #[.pointer (some ⟨w3.heap.size, 0, none⟩), .int .i64 148, .int .i64 8] W4 fun e w' => e = .returned (.string x8) ∧ W4 = w') := by rw [hx8]; exact HFF.out _ L W4 HLN.out X4.out
  have CT : Hid (Calls Tryz.prog 115 #[.pointer (some ⟨w3.heap.size, 0, none⟩)] W4 fun e w' => e = .returned (.string st) ∧ Below W4.heap.size W4 w') := by rw [hst8]; exact HTT.out _ L W4 HLN.out X4.out B4.out
  clear hx8 hst8
  go_wp2_with (refine wpList_load_row rfl 113 _ rfl w3.heap.size rfl _ _ _ _ X4.out Tryz.underlying113 rfl (by rw [HI.out]; simp [HLN.out]) ?_)
  refine CF.out.mono ?_
  rintro e w5 ⟨rfl, rfl⟩
  go_wp2_with fail
  refine CT.out.mono ?_
  rintro e w6 ⟨rfl, hb6⟩
  have B6 : Hid (Below w.heap.size w w6) := M.s1i' B4.out hb6
  have A6 : Hid (M.Arr w6 w.heap.size 113 (List.replicate 512 0)) := A4.out.below hb6 A4.out.lt
  have X6 : Hid (M.Arr w6 w3.heap.size 113 L) := X4.out.below hb6 X4.out.lt
  clear hb6 CF CT X4 A4 B4 hst' hq
  cases hso : (x8.toList == st.toList)
  · have HE : Hid (V = .iface 105 (.agg #[.int .i64 5])) := by show _ = _; rw [HV.out, if_neg HNZ.out, if_pos (by rw [HSO.out]; exact hso)]; rfl
    have e3 : (x8.toList != st.toList) = true := by unfold bne; rw [hso]; rfl
    obtain ⟨W7, hs7, H7, B7⟩ := M.Arr.move (P := Tryz.prog) HLN.out A6.out (Nat.le_refl _) B6.out
    have H7H : Hid (M.Arr W7 w.heap.size 113 L ∧ Below w.heap.size w W7) := ⟨H7, B7⟩
    clear H7 B7
    go_wp2_with (refine wpList_load_row rfl 113 _ rfl w3.heap.size rfl _ _ _ _ X6.out Tryz.underlying113 rfl (by rw [HI.out]; simp [HLN.out]) ?_)
    exact bodyPost_ret (M.results_row2 Tryz.results82 _ _ w.heap.size _ _ _ _ (.iface 105 (.agg #[.int .i64 5])) rfl rfl H7H.out.1 Tryz.underlying113 rfl (by rw [HI.out]; simp [HLN.out])) rfl ⟨by rw [HE.out], H7H.out.2⟩
  have e3 : (x8.toList != st.toList) = false := by unfold bne; rw [hso]; rfl
  have HSK : Hid (¬ M.sumOkL L = false) := by show ¬ _; rw [HSO.out, hso]; simp
  have e4 : (x8.toList == st.toList) = true := hso
  clear hso
  obtain ⟨s, hs⟩ : ∃ s, s = M.sizeL L := ⟨_, rfl⟩
  have HSZ := M.hidp hs
  have hs9 : s ≤ 8589934591 := by rw [hs]; exact M.sizeL_le L
  have CS : Hid (∀ W, M.Arr W w3.heap.size 113 L → Calls Tryz.prog 116 #[.pointer (some ⟨w3.heap.size, 0, none⟩)] W fun e w' => e = .returned (.int .i64 s) ∧ W = w') := fun W hW => by rw [hs]; exact HSS.out _ L W HLN.out hW
  clear hs
  go_wp2_with fail
  refine (CS.out _ X6.out).mono ?_
  rintro e w7 ⟨rfl, rfl⟩
  by_cases hneg : s < 0
  · have HE : Hid (V = .iface 105 (.agg #[.int .i64 3])) := by show _ = _; rw [HV.out, if_neg HNZ.out, if_neg HSK.out, if_pos (by rw [← HSZ.out]; exact hneg)]; rfl
    obtain ⟨W7, hs7, H7, B7⟩ := M.Arr.move (P := Tryz.prog) HLN.out A6.out (Nat.le_refl _) B6.out
    have H7H : Hid (M.Arr W7 w.heap.size 113 L ∧ Below w.heap.size w W7) := ⟨H7, B7⟩
    clear H7 B7
    go_wp2_with (refine wpList_load_row rfl 113 _ rfl w3.heap.size rfl _ _ _ _ X6.out Tryz.underlying113 rfl (by rw [HI.out]; simp [HLN.out]) ?_)
    exact bodyPost_ret (M.results_row2 Tryz.results82 _ _ w.heap.size _ _ _ _ (.iface 105 (.agg #[.int .i64 3])) rfl rfl H7H.out.1 Tryz.underlying113 rfl (by rw [HI.out]; simp [HLN.out])) rfl ⟨by rw [HE.out], H7H.out.2⟩
  obtain ⟨m, rfl⟩ : ∃ m : Nat, s = m := ⟨s.toNat, by omega⟩
  obtain ⟨B, hBe⟩ : ∃ B, B = (m + 511) / 512 := ⟨_, rfl⟩
  have hB9 : B ≤ 100000000 := by omega
  have CB : Hid (∀ W, Calls Tryz.prog 117 #[.int .i64 m] W fun e w' => e = .returned (.int .i64 B) ∧ W = w') := fun W => by rw [hBe]; exact HBB.out m W (by omega)
  have HV2 : Hid (V = M.errI (if t.size < a + 512 + B * 512 then 4 else 0)) := by
    show _ = _
    rw [HV.out, if_neg HNZ.out, if_neg HSK.out, if_neg (by rw [← HSZ.out]; exact hneg), ← HSZ.out, Int.toNat_natCast, hBe]
    rfl
  clear hBe
  go_wp2_with fail
  refine (HLL.out _ (HC.out.below B6.out)).mono ?_
  rintro e w8 ⟨rfl, n8, rfl⟩
  have B8 : Hid (Below w.heap.size w (w6.drewN n8)) := below_drewN B6.out n8
  have A8 := M.hidp (A6.out.drewN n8)
  have X8 := M.hidp (X6.out.drewN n8)
  clear A6 X6 B6
  go_wp2_with fail
  refine (CS.out _ X8.out).mono ?_
  rintro e w9 ⟨rfl, rfl⟩
  go_wp2_with fail
  refine (CB.out _).mono ?_
  rintro e w9 ⟨rfl, rfl⟩
  by_cases hfin : t.size < a + 512 + B * 512
  · have HE : Hid (V = .iface 105 (.agg #[.int .i64 4])) := by show _ = _; rw [HV2.out, if_pos hfin]; rfl
    have d4 : decide ((t.size : Int) - (a : Int) < 512 + (B : Int) * 512) = true := decide_eq_true (by omega)
    obtain ⟨W7, hs7, H7, B7⟩ := M.Arr.move (P := Tryz.prog) HLN.out A8.out (Nat.le_refl _) B8.out
    have H7H : Hid (M.Arr W7 w.heap.size 113 L ∧ Below w.heap.size w W7) := ⟨H7, B7⟩
    clear H7 B7
    go_wp2_with (refine wpList_load_row rfl 113 _ rfl w3.heap.size rfl _ _ _ _ X8.out Tryz.underlying113 rfl (by rw [HI.out]; simp [HLN.out]) ?_)
    exact bodyPost_ret (M.results_row2 Tryz.results82 _ _ w.heap.size _ _ _ _ (.iface 105 (.agg #[.int .i64 4])) rfl rfl H7H.out.1 Tryz.underlying113 rfl (by rw [HI.out]; simp [HLN.out])) rfl ⟨by rw [HE.out], H7H.out.2⟩
  · have HE : Hid (V = .nilIface) := by show _ = _; rw [HV2.out, if_neg hfin]; rfl
    have d4 : decide ((t.size : Int) - (a : Int) < 512 + (B : Int) * 512) = false := decide_eq_false (by omega)
    obtain ⟨W7, hs7, H7, B7⟩ := M.Arr.move (P := Tryz.prog) HLN.out A8.out (Nat.le_refl _) B8.out
    have H7H : Hid (M.Arr W7 w.heap.size 113 L ∧ Below w.heap.size w W7) := ⟨H7, B7⟩
    clear H7 B7
    go_wp2_with (refine wpList_load_row rfl 113 _ rfl w3.heap.size rfl _ _ _ _ X8.out Tryz.underlying113 rfl (by rw [HI.out]; simp [HLN.out]) ?_)
    exact bodyPost_ret (M.results_row2 Tryz.results82 _ _ w.heap.size _ _ _ _ .nilIface rfl rfl H7H.out.1 Tryz.underlying113 rfl (by rw [HI.out]; simp [HLN.out])) rfl ⟨by rw [HE.out], H7H.out.2⟩
end Go.Proofs.YtephjmlcbpfnaaaGreatDoor
