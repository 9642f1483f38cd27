/-
  Steps of a write onto tapes, behind stores into boxes that lie apart from all rows.
-/
import Derived.Test.YtappficbjjkmiaaWrStep
import Derived.Test.YtappficbjjkmiaaPart10
import Derived.Test.YtappficbjjkmiaaPart12
namespace Go.Proofs.Ytappficbjjkmiaa
open Go.RowKit

theorem M.set_comm {W : World} {a b i j : Nat} {x y : Value} (h : a ≠ b) : (W.setCell ⟨a, i, none⟩ x).setCell ⟨b, j, none⟩ y = (W.setCell ⟨b, j, none⟩ y).setCell ⟨a, i, none⟩ x := by
  have e : ((W.setCell ⟨a, i, none⟩ x).setCell ⟨b, j, none⟩ y).heap = ((W.setCell ⟨b, j, none⟩ y).setCell ⟨a, i, none⟩ x).heap := by
    apply Array.ext
    · simp [World.setCell]
    intro k h1 h2
    simp only [World.setCell, Array.getElem_modify]
    by_cases ha : a = k
    · subst ha
      have hba : ¬ b = a := fun e => h e.symm
      simp [hba]
    · by_cases hb : b = k
      · subst hb; simp [ha]
      · simp [ha, hb]
  show ({ W with heap := ((W.setCell ⟨a, i, none⟩ x).setCell ⟨b, j, none⟩ y).heap } : World) = { W with heap := ((W.setCell ⟨b, j, none⟩ y).setCell ⟨a, i, none⟩ x).heap }
  rw [e]
/-- A store into a box. -/
theorem M.WrW.setBox {w : World} {lo g n cap : Nat} {pv rv : Value} {rb : Option Nat} {qs : List (M.TapeD × Value)} {ps : List M.PartD} {bs : List ByteArray} (h : M.WrW w lo g n cap pv rv rb qs ps bs) {B : Nat} {c : Array Value} {T : TypeId} {fr : Nat × Nat} (hB : w.heap[B]? = some (.cells c T fr)) (h1 : T ≠ 36) (h2 : T ≠ 47) (h3 : T ≠ 9) (hr : rb ≠ some B) (j : Nat) (v : Value) : M.WrW (w.setCell ⟨B, j, none⟩ v) lo g n cap pv rv rb qs ps bs := by
  obtain ⟨b1, b2, b3⟩ := h.box hB h1 h2 h3
  have hsz : (w.setCell ⟨B, j, none⟩ v).heap.size = w.heap.size := by simp [World.setCell]
  have hset : ∀ b, b ≠ B → (w.setCell ⟨B, j, none⟩ v).heap[b]? = w.heap[b]? := fun b hb => M.setfr (fun e => hb e.symm)
  have hg : w.grownBy (w.setCell ⟨B, j, none⟩ v) (Value.slice (some ⟨B, 0, none⟩) 0 0).ownBlock := M.grp1 (World.grownBy.refl w (some B))
  refine ⟨?_, h.pt.keptAt (fun b hb _ => hset b (fun e => b2 (by rw [← e]; exact hb))), h.sd, h.rs.keptAt (fun b hb _ => hset b (fun e => hr (by rw [← e]; exact hb))), fun b e => by rw [hsz]; exact h.rl b e, h.ro⟩
  rw [hsz]
  refine h.tp.grown (u := .slice (some ⟨B, 0, none⟩) 0 0) (fun b hb => ?_) hg
  obtain rfl := Option.some.inj hb
  exact ⟨fun e => b1 (Option.some.inj e), b3⟩
theorem M.cells_set {W : World} {B : Nat} {c : Array Value} {T : TypeId} {fr : Nat × Nat} (hB : W.heap[B]? = some (.cells c T fr)) (j : Nat) (v : Value) : ∃ c', (W.setCell ⟨B, j, none⟩ v).heap[B]? = some (.cells c' T fr) := by
  refine ⟨c.setIfInBounds j v, ?_⟩
  simp [World.setCell, Array.getElem?_modify, hB]
theorem M.WrW.setBox4 {w : World} {lo g n cap : Nat} {pv rv : Value} {rb : Option Nat} {qs : List (M.TapeD × Value)} {ps : List M.PartD} {bs : List ByteArray} (h : M.WrW w lo g n cap pv rv rb qs ps bs) {B : Nat} {c : Array Value} {T : TypeId} {fr : Nat × Nat} (hB : w.heap[B]? = some (.cells c T fr)) (h1 : T ≠ 36) (h2 : T ≠ 47) (h3 : T ≠ 9) (hr : rb ≠ some B) (v0 v1 v2 v3 : Value) : M.WrW ((((w.setCell ⟨B, 0, none⟩ v0).setCell ⟨B, 1, none⟩ v1).setCell ⟨B, 2, none⟩ v2).setCell ⟨B, 3, none⟩ v3) lo g n cap pv rv rb qs ps bs := by
  obtain ⟨c1, e1⟩ := M.cells_set hB 0 v0
  obtain ⟨c2, e2⟩ := M.cells_set e1 1 v1
  obtain ⟨c3, e3⟩ := M.cells_set e2 2 v2
  exact (((h.setBox hB h1 h2 h3 hr 0 v0).setBox e1 h1 h2 h3 hr 1 v1).setBox e2 h1 h2 h3 hr 2 v2).setBox e3 h1 h2 h3 hr 3 v3
theorem Try.cut_to (W : World) (ad : Addr) (n c k : Nat) (h : k ≤ c) : (Instr.slice 34 (.slice (some ad) n c) none (some (.int .i64 (k : Int))) none).run Try.prog W = .ok (.slice (some ad) k c) W := by
  rw [run_slice_h W 34 _ n c (by kernel_rfl) .i64 (k : Int) (by omega) (by omega), Int.toNat_natCast]
  simp [go_sem, sliced]
theorem M.sliced1 (b o n c k : Nat) : sliced (some ⟨b, o, none⟩) k n c 1 = .slice (if c = k then some ⟨b, o, none⟩ else some ⟨b, o + k, none⟩) (n - k) (c - k) := by
  unfold sliced
  rw [Nat.mul_one]
  simp only [Option.map_some, Addr.add_lit]
theorem M.bk_put {W : World} {H : Nat} {T : TypeId} {z0 z1 z2 z3 : Value} (hb : W.heap[H]? = some (.cells #[z0, z1, z2, z3] T (0, 0))) (u : Value) : (W.setCell ⟨H, 1, none⟩ u).heap[H]? = some (.cells #[z0, u, z2, z3] T (0, 0)) := by
  simp [World.setCell, Array.getElem?_modify, hb]
/-- A box behind what grew a row. -/
theorem M.bk_grown {w W : World} {B : Nat} {o : Obj} {row : Option Nat} (hB : w.heap[B]? = some o) (hg : w.grownBy W row) (hne : row ≠ some B) : W.heap[B]? = some o :=
  (hg.block B (Array.getElem?_eq_some_iff.1 hB).1 (fun e => hne e.symm)).trans hB
theorem M.below_grown {base : Nat} {w W W' : World} {row : Option Nat} (h : Below base w W) (hg : W.grownBy W' row) (hb : base ≤ W.heap.size) (hr : ∀ g, row = some g → base ≤ g) : Below base w W' := h.grown hg hb hr
/-- One of the tapes that a write goes on, in memory. -/
theorem M.WrW.at {w : World} {lo g n cap k : Nat} {pv rv : Value} {rb : Option Nat} {qs : List (M.TapeD × Value)} {ps : List M.PartD} {bs : List ByteArray} {p : M.TapeD × Value} (h : M.WrW w lo g n cap pv rv rb qs ps bs) (hk : qs[k]? = some p) : w.cell? ⟨g, k * 4, none⟩ = some (.int .i64 p.1.lab) ∧ w.cell? ⟨g, k * 4 + 1, none⟩ = some p.2 ∧ w.cell? ⟨g, k * 4 + 2, none⟩ = some (.int .i64 p.1.syn) ∧ w.cell? ⟨g, k * 4 + 3, none⟩ = some (.int .i64 p.1.room) ∧ (∀ j, w.frozen? ⟨g, j, none⟩ = false) ∧ ∃ a c, p.2 = .slice a p.1.ss.length c := by
  obtain ⟨hl, hlo, hn, hc, ⟨cur, hh, hz⟩, hp⟩ := h.tp.place
  obtain ⟨c0, c1, c2, c3⟩ := hp k p hk
  exact ⟨c0, c1, c2, c3, fun j => by simp [World.frozen?, hh], (h.tp.each p (List.mem_of_getElem? hk)).1.len⟩
/-- The tapes, the parts and the code that TapesWrite tells; ok: are the tapes that are used right? -/
def M.tw (ok : Bool) (ts : List M.TapeD) (zs : List Int) (s : ByteArray) : List M.TapeD × List M.PartD × Int :=
  if 400 < ts.length ∨ 400 < zs.length ∨ 20000 < s.size then ([], [], 2) else
  if M.tapesR ts && ok then
    (if (M.wr ⟨ts, [], M.tbl s ((s.size + 63) / 64)⟩ zs).bs = [] then ((M.wr ⟨ts, [], M.tbl s ((s.size + 63) / 64)⟩ zs).ts, (M.wr ⟨ts, [], M.tbl s ((s.size + 63) / 64)⟩ zs).ps, 0) else ([], [], 9))
  else ([], [], 1)
theorem M.tw_long {ok : Bool} {ts : List M.TapeD} {zs : List Int} {s : ByteArray} (h : 400 < ts.length ∨ 400 < zs.length ∨ 20000 < s.size) : M.tw ok ts zs s = ([], [], 2) := by unfold M.tw; rw [if_pos h]
theorem M.tw_no {ok : Bool} {ts : List M.TapeD} {zs : List Int} {s : ByteArray} (h : ¬ (400 < ts.length ∨ 400 < zs.length ∨ 20000 < s.size)) (h2 : (M.tapesR ts && ok) = false) : M.tw ok ts zs s = ([], [], 1) := by unfold M.tw; rw [if_neg h, if_neg (by rw [h2]; decide)]
theorem M.tw_full {ok : Bool} {ts : List M.TapeD} {zs : List Int} {s : ByteArray} {x : M.WrS} (h : ¬ (400 < ts.length ∨ 400 < zs.length ∨ 20000 < s.size)) (h2 : (M.tapesR ts && ok) = true) (hx : M.wr ⟨ts, [], M.tbl s ((s.size + 63) / 64)⟩ zs = x) (h3 : ¬ x.bs = []) : M.tw ok ts zs s = ([], [], 9) := by unfold M.tw; rw [if_neg h, if_pos h2, hx, if_neg h3]
theorem M.tw_yes {ok : Bool} {ts : List M.TapeD} {zs : List Int} {s : ByteArray} {x : M.WrS} (h : ¬ (400 < ts.length ∨ 400 < zs.length ∨ 20000 < s.size)) (h2 : (M.tapesR ts && ok) = true) (hx : M.wr ⟨ts, [], M.tbl s ((s.size + 63) / 64)⟩ zs = x) (h3 : x.bs = []) : M.tw ok ts zs s = (x.ts, x.ps, 0) := by unfold M.tw; rw [if_neg h, if_pos h2, hx, if_pos h3]
/-- What is told of a write, in memory. -/
def M.TwVal (ok : Bool) (ts : List M.TapeD) (zs : List Int) (s : ByteArray) (w : World) (e : Ending) (w' : World) : Prop :=
  ∃ (v pv : Value) (qs : List (M.TapeD × Value)), e = .returned (.agg #[v, pv, .string ⟨#[]⟩, .int .i64 (M.tw ok ts zs s).2.2]) ∧ qs.map Prod.fst = (M.tw ok ts zs s).1 ∧ M.OwnT w' w.heap.size w'.heap.size v qs ∧ M.OwnPt w' w.heap.size pv (M.tw ok ts zs s).2.1 ∧ Below w.heap.size w w'
theorem M.TwVal.no {ok : Bool} {ts : List M.TapeD} {zs : List Int} {s : ByteArray} {w W : World} {k : Int} (hk : M.tw ok ts zs s = ([], [], k)) (hb : Below w.heap.size w W) : M.TwVal ok ts zs s w (.returned (.agg #[.slice none 0 0, .slice none 0 0, .string ⟨#[]⟩, .int .i64 k])) W := by
  unfold M.TwVal
  rw [hk]
  exact ⟨_, _, [], rfl, rfl, M.OwnT.nil _ _ _, M.OwnPt.nil _ _, hb⟩
theorem M.tbl_size {s : ByteArray} {k : Nat} : ∀ b ∈ M.tbl s k, b.size = 64 := fun b hb => by
  unfold M.tbl at hb
  obtain ⟨i, -, rfl⟩ := List.mem_map.1 hb
  exact M.padL_len _
theorem M.wr1_ps (x : M.WrS) (n : Int) : (M.wr1 x n).ps.length ≤ x.ps.length + 1 ∧ (M.wr1 x n).bs.length ≤ x.bs.length := by
  unfold M.wr1
  cases x.ts[n.toNat]? with
  | none => exact ⟨Nat.le_succ _, Nat.le_refl _⟩
  | some t =>
    show (if M.wrM t x.bs = 0 then x else _ : M.WrS).ps.length ≤ _ ∧ (if M.wrM t x.bs = 0 then x else _ : M.WrS).bs.length ≤ _
    by_cases h0 : M.wrM t x.bs = 0
    · rw [if_pos h0]; exact ⟨Nat.le_succ _, Nat.le_refl _⟩
    · rw [if_neg h0]; simp
theorem M.wr_ps : ∀ (ns : List Int) (x : M.WrS), (M.wr x ns).ps.length ≤ x.ps.length + ns.length ∧ (M.wr x ns).bs.length ≤ x.bs.length
  | [], _ => ⟨Nat.le_refl _, Nat.le_refl _⟩
  | n :: ns, x => by
    have h1 := M.wr1_ps x n
    have h2 := M.wr_ps ns (M.wr1 x n)
    have e : M.wr x (n :: ns) = M.wr (M.wr1 x n) ns := rfl
    rw [e, List.length_cons]
    omega
theorem M.drewGrown {w : World} (o : Obj) (row : Option Nat) : w.grownBy (w.alloc o).drew row := by
  have hb : Below w.heap.size w (w.alloc o).drew := ((Below.refl _ _).alloc (Nat.le_refl _) _).drew
  exact ⟨hb.os, hb.tape, hb.output, hb.size, fun i hi _ => hb.block i hi⟩
theorem M.drewGrown0 {w : World} (row : Option Nat) : w.grownBy w.drew row := by
  have hb : Below w.heap.size w w.drew := (Below.refl _ _).drew
  exact ⟨hb.os, hb.tape, hb.output, hb.size, fun i hi _ => hb.block i hi⟩
theorem M.Rest.at {w : World} {rb : Option Nat} {a : Option Addr} {n c : Nat} {bs : List ByteArray} (h : M.Rest w rb (.slice a n c) bs) : M.Strs w a n c bs := by
  obtain ⟨a', c', e, hs, -, -⟩ := h
  cases e
  exact hs
theorem M.oneStrs (ss : List ByteArray) : ∀ v ∈ ss.map Value.string, v.oneCell' = true := fun v hv => by
  obtain ⟨s, -, rfl⟩ := List.mem_map.1 hv
  rfl
theorem M.Strs.srcTake {w : World} {ad : Addr} {len cap k : Nat} {ss : List ByteArray} (h : M.Strs w (some ad) len cap ss) : ∀ j u, ((ss.take k).map Value.string)[j]? = some u → w.cell? (ad.add j) = some u := fun j u hu => by
  refine h.src j u ?_
  rw [List.map_take, List.getElem?_take] at hu
  split at hu
  · exact hu
  · cases hu
/-- One part more, all told: two boxes stay. -/
theorem M.WrW.partAll {w0 w W : World} {lo g n cap : Nat} {pv pv' rv : Value} {rb : Option Nat} {qs : List (M.TapeD × Value)} {ps : List M.PartD} {p : M.PartD} {bs : List ByteArray} {o : Obj} {B0 B1 : Nat} {k0 k1 : Array Value} {T0 T1 : TypeId} (h : M.WrW w lo g n cap pv rv rb qs ps bs)
    (hown : W.ownsRow lo 47 4 pv' (ps.length + 1) (M.cellsPt ps ++ M.ptcells p)) (hg : (w.alloc o).drew.grownBy W pv.ownBlock) (hat : pv'.ownBlock = pv.ownBlock ∨ pv'.ownBlock = some (w.alloc o).drew.heap.size)
    (h0 : w.heap[B0]? = some (.cells k0 T0 (0, 0))) (h1 : w.heap[B1]? = some (.cells k1 T1 (0, 0))) (t0 : T0 ≠ 47) (t1 : T1 ≠ 47) (hb : Below lo w0 w) (hlo : lo ≤ w.heap.size) :
    M.WrW W lo g n cap pv' rv rb qs (ps ++ [p]) bs ∧ W.heap[B0]? = some (.cells k0 T0 (0, 0)) ∧ W.heap[B1]? = some (.cells k1 T1 (0, 0)) ∧ Below lo w0 W := by
  have hgr : w.grownBy W pv.ownBlock := (M.drewGrown o _).trans hg
  have hsz : (w.alloc o).drew.heap.size = w.heap.size + 1 := by show (w.alloc o).heap.size = _; simp
  refine ⟨h.part (M.OwnPt.more hown) hgr ?_, M.bk_grown h0 hgr (M.row_notType h.pt h0 t0), M.bk_grown h1 hgr (M.row_notType h.pt h1 t1), hb.grown hgr hlo (fun j hj => (World.ownsRow.lt h.pt j hj).1)⟩
  rcases hat with e | e
  · exact .inl e
  · exact .inr fun b hb => by rw [e, hsz] at hb; have := Option.some.inj hb; omega
/-- One tape's blocks more, ahead of the store of its cell: two boxes stay. -/
theorem M.WrW.tapeAll {w0 w W : World} {lo g n cap k : Nat} {pv rv u u' : Value} {rb : Option Nat} {qs : List (M.TapeD × Value)} {ps : List M.PartD} {bs ss more : List ByteArray} {x y z : Int} {B0 B1 : Nat} {k0 k1 : Array Value} {T0 T1 : TypeId} (h : M.WrW w lo g n cap pv rv rb qs ps bs) (hk : qs[k]? = some (⟨x, ss, y, z⟩, u))
    (hown : W.ownsRow lo 9 1 u' (ss.length + more.length) (ss.map Value.string ++ more.map Value.string)) (hg : w.drew.grownBy W u.ownBlock) (hat : u'.ownBlock = u.ownBlock ∨ u'.ownBlock = some w.drew.heap.size)
    (h0 : w.heap[B0]? = some (.cells k0 T0 (0, 0))) (h1 : w.heap[B1]? = some (.cells k1 T1 (0, 0))) (t0 : T0 ≠ 9) (t1 : T1 ≠ 9) (s0 : T0 ≠ 36) (s1 : T1 ≠ 36) (hb : Below lo w0 w) (hlo : lo ≤ w.heap.size) :
    (∃ a n c, u' = .slice a n c) ∧ M.WrW (W.setCell ⟨g, k * 4 + 1, none⟩ u') lo g n cap pv rv rb (qs.take k ++ (⟨x, ss ++ more, y, z⟩, u') :: qs.drop (k + 1)) ps bs ∧ W.cell? ⟨g, k * 4 + 1, none⟩ = some u ∧ W.frozen? ⟨g, k * 4 + 1, none⟩ = false ∧ (W.setCell ⟨g, k * 4 + 1, none⟩ u').heap[B0]? = some (.cells k0 T0 (0, 0)) ∧ (W.setCell ⟨g, k * 4 + 1, none⟩ u').heap[B1]? = some (.cells k1 T1 (0, 0)) ∧ Below lo w0 (W.setCell ⟨g, k * 4 + 1, none⟩ u') := by
  have hgr : w.grownBy W u.ownBlock := (M.drewGrown0 _).trans hg
  have hsz : w.drew.heap.size = w.heap.size := rfl
  have hpm := List.mem_of_getElem? hk
  have hue := (h.tp.each _ hpm).1
  have ho : M.OwnS W lo u' (ss ++ more) := by
    unfold M.OwnS
    rw [List.length_append, List.map_append]
    exact hown
  obtain ⟨hl, hlo2, hn, hc, ⟨cur, hh, hz⟩, hp⟩ := h.tp.place
  obtain ⟨c0, c1, c2, c3⟩ := hp k _ hk
  have hgb : W.heap[g]? = w.heap[g]? := hgr.block g (Array.getElem?_eq_some_iff.1 hh).1 (fun e => h.tp.notIn hpm rfl e.symm)
  have n0 : g ≠ B0 := fun e => M.row_notType h.tp.row h0 s0 (by rw [e]; rfl)
  have n1 : g ≠ B1 := fun e => M.row_notType h.tp.row h1 s1 (by rw [e]; rfl)
  refine ⟨ho.len.elim (fun a ⟨c, e⟩ => ⟨a, _, c, e⟩), h.tape hk hgr ho ?_, (World.cell?_of_block (a := ⟨g, k * 4 + 1, none⟩) hgb).trans c1, by simp [World.frozen?, hgb, hh], (M.setfr n0).trans (M.bk_grown h0 hgr (M.row_notType hue h0 t0)), (M.setfr n1).trans (M.bk_grown h1 hgr (M.row_notType hue h1 t1)), (hb.grown hgr hlo (fun j hj => (World.ownsRow.lt hue j hj).1)).setCell hlo2 _⟩
  rcases hat with e | e
  · exact .inl e
  · exact .inr fun b hb => by rw [e, hsz] at hb; have := Option.some.inj hb; omega
end Go.Proofs.Ytappficbjjkmiaa

/-
  A step of a write onto tapes of the specification: the tape is taken into a box, its blocks grow there, and it is stored back whole.
-/
namespace Go.Proofs.Ytappficbjjkmiaa
open Go.RowKit

theorem M.WrW.setBoxG {w : World} {lo g n cap : Nat} {pv rv : Value} {rb : Option Nat} {qs : List (M.TapeD × Value)} {ps : List M.PartD} {bs : List ByteArray} (h : M.WrW w lo g n cap pv rv rb qs ps bs) {B : Nat} {c : Array Value} {T : TypeId} {fr : Nat × Nat} (hB : w.heap[B]? = some (.cells c T fr)) (h1 : g ≠ B) (h2 : T ≠ 47) (h3 : T ≠ 9) (hr : rb ≠ some B) (j : Nat) (v : Value) : M.WrW (w.setCell ⟨B, j, none⟩ v) lo g n cap pv rv rb qs ps bs := by
  have b2 := M.row_notType h.pt hB h2
  have b3 : ∀ p ∈ qs, p.2.ownBlock ≠ some B := fun p hp => M.row_notType (h.tp.each p hp).1 hB h3
  have hsz : (w.setCell ⟨B, j, none⟩ v).heap.size = w.heap.size := by simp [World.setCell]
  have hset : ∀ b, b ≠ B → (w.setCell ⟨B, j, none⟩ v).heap[b]? = w.heap[b]? := fun b hb => M.setfr (fun e => hb e.symm)
  have hg : w.grownBy (w.setCell ⟨B, j, none⟩ v) (Value.slice (some ⟨B, 0, none⟩) 0 0).ownBlock := M.grp1 (World.grownBy.refl w (some B))
  refine ⟨?_, h.pt.keptAt (fun b hb _ => hset b (fun e => b2 (by rw [← e]; exact hb))), h.sd, h.rs.keptAt (fun b hb _ => hset b (fun e => hr (by rw [← e]; exact hb))), fun b e => by rw [hsz]; exact h.rl b e, h.ro⟩
  rw [hsz]
  refine h.tp.grown (u := .slice (some ⟨B, 0, none⟩) 0 0) (fun b hb => ?_) hg
  obtain rfl := Option.some.inj hb
  exact ⟨fun e => h1 (Option.some.inj e), b3⟩
theorem M.WrW.tapeBox {w0 w W : World} {lo g n cap k B : Nat} {pv rv u u' : Value} {rb : Option Nat} {qs : List (M.TapeD × Value)} {ps : List M.PartD} {bs ss more : List ByteArray} {x y z : Int} (h : M.WrW w lo g n cap pv rv rb qs ps bs) (hk : qs[k]? = some (⟨x, ss, y, z⟩, u))
    (hown : W.ownsRow lo 9 1 u' (ss.length + more.length) (ss.map Value.string ++ more.map Value.string)) (hg : w.drew.grownBy W u.ownBlock) (hat : u'.ownBlock = u.ownBlock ∨ u'.ownBlock = some w.drew.heap.size)
    (hB : w.heap[B]? = some (.cells #[.int .i64 x, u, .int .i64 y, .int .i64 z] 36 (0, 0))) (hgB : g ≠ B) (hr : rb ≠ some B) (hb : Below lo w0 w) (hlo : lo ≤ w.heap.size) (hlB : lo ≤ B) :
    (∃ a n c, u' = .slice a n c) ∧ W.cell? ⟨B, 1, none⟩ = some u ∧ W.frozen? ⟨B, 1, none⟩ = false ∧ (W.setCell ⟨B, 1, none⟩ u').heap[B]? = some (.cells #[.int .i64 x, u', .int .i64 y, .int .i64 z] 36 (0, 0)) ∧
    ((W.setCell ⟨B, 1, none⟩ u').cell? ⟨g, k * 4, none⟩ = some (.int .i64 x) ∧ (W.setCell ⟨B, 1, none⟩ u').cell? ⟨g, k * 4 + 1, none⟩ = some u ∧ (W.setCell ⟨B, 1, none⟩ u').cell? ⟨g, k * 4 + 2, none⟩ = some (.int .i64 y) ∧ (W.setCell ⟨B, 1, none⟩ u').cell? ⟨g, k * 4 + 3, none⟩ = some (.int .i64 z) ∧ ∀ j, (W.setCell ⟨B, 1, none⟩ u').frozen? ⟨g, j, none⟩ = false) ∧
    M.WrW (((((W.setCell ⟨B, 1, none⟩ u').drew.setCell ⟨g, k * 4, none⟩ (.int .i64 x)).setCell ⟨g, k * 4 + 1, none⟩ u').setCell ⟨g, k * 4 + 2, none⟩ (.int .i64 y)).setCell ⟨g, k * 4 + 3, none⟩ (.int .i64 z)) lo g n cap pv rv rb (qs.take k ++ (⟨x, ss ++ more, y, z⟩, u') :: qs.drop (k + 1)) ps bs ∧
    Below lo w0 (W.setCell ⟨B, 1, none⟩ u') ∧ Below lo w0 (((((W.setCell ⟨B, 1, none⟩ u').drew.setCell ⟨g, k * 4, none⟩ (.int .i64 x)).setCell ⟨g, k * 4 + 1, none⟩ u').setCell ⟨g, k * 4 + 2, none⟩ (.int .i64 y)).setCell ⟨g, k * 4 + 3, none⟩ (.int .i64 z)) := by
  have hgr : w.grownBy W u.ownBlock := (M.drewGrown0 _).trans hg
  have hsz : w.drew.heap.size = w.heap.size := rfl
  have hpm := List.mem_of_getElem? hk
  have hue := (h.tp.each _ hpm).1
  have ho : M.OwnS W lo u' (ss ++ more) := by
    unfold M.OwnS
    rw [List.length_append, List.map_append]
    exact hown
  have hloc : u'.ownBlock = u.ownBlock ∨ ∀ b, u'.ownBlock = some b → w.heap.size ≤ b := by
    rcases hat with e | e
    · exact .inl e
    · exact .inr fun b hb => by rw [e, hsz] at hb; have := Option.some.inj hb; omega
  obtain ⟨hl, hlo2, hn, hc, ⟨cur, hh, hz⟩, hp⟩ := h.tp.place
  obtain ⟨c0, c1, c2, c3⟩ := hp k _ hk
  have hgb : W.heap[g]? = w.heap[g]? := hgr.block g (Array.getElem?_eq_some_iff.1 hh).1 (fun e => h.tp.notIn hpm rfl e.symm)
  have hBW : W.heap[B]? = some (.cells #[.int .i64 x, u, .int .i64 y, .int .i64 z] 36 (0, 0)) := M.bk_grown hB hgr (M.row_notType hue hB (by decide))
  have hXg : (W.setCell ⟨B, 1, none⟩ u').heap[g]? = w.heap[g]? := (M.setfr (fun e => hgB e.symm)).trans hgb
  have hB1 : Below lo w0 (W.setCell ⟨B, 1, none⟩ u') := (hb.grown hgr hlo (fun j hj => (World.ownsRow.lt hue j hj).1)).setCell hlB _
  have d0 := (World.cell?_of_block (a := ⟨g, k * 4, none⟩) hXg).trans c0
  have d1 := (World.cell?_of_block (a := ⟨g, k * 4 + 1, none⟩) hXg).trans c1
  have d2 := (World.cell?_of_block (a := ⟨g, k * 4 + 2, none⟩) hXg).trans c2
  have d3 := (World.cell?_of_block (a := ⟨g, k * 4 + 3, none⟩) hXg).trans c3
  have hW1 := h.tape hk hgr ho hloc
  have hW2 := hW1.setBoxG (B := B) ((M.setfr hgB).trans hBW) hgB (by decide) (by decide) hr 1 u'
  rw [M.set_comm hgB] at hW2
  have hW3 := hW2.below (Below.refl _ _).drew
  refine ⟨ho.len.elim (fun a ⟨c, e⟩ => ⟨a, _, c, e⟩), M.bk_cell hBW 1 u rfl, M.bk_free hBW 1, M.bk_put hBW u', ⟨d0, d1, d2, d3, fun j => by simp [World.frozen?, hXg, hh]⟩, ?_, hB1, ((((hB1.drew).setCell hlo2 _).setCell hlo2 _).setCell hlo2 _).setCell hlo2 _⟩
  rw [M.setSame (W := (W.setCell ⟨B, 1, none⟩ u').drew) d0, M.setSame (W := (W.setCell ⟨B, 1, none⟩ u').drew.setCell ⟨g, k * 4 + 1, none⟩ u') ((M.co4 (by omega)).trans d2), M.setSame (W := (W.setCell ⟨B, 1, none⟩ u').drew.setCell ⟨g, k * 4 + 1, none⟩ u') ((M.co4 (by omega)).trans d3)]
  exact hW3
end Go.Proofs.Ytappficbjjkmiaa
