/-
  What dumpsByHost of the program does.
-/
import Derived.Test.YtpokcbcffijheabGroupMath
import Derived.Test.YtpokcbcffijheabInfoDp
import Derived.Deep.RegionHeldLaw
namespace Go.Proofs.Ytpokcbcffijheab
open Go.RowKit Go.Maps

theorem M.step_own_at {P : Program} {w : World} {ops : Array Oper} {o : Oper} {a : Act} {K : Act → World → Prop} {Q : Exit → Act → World → Prop} {E : Prop} (hgd : o.guard = none) (s x : Operand) (t : TypeId)
    (ho : o.op = .call { callee := .builtin .append, args := #[s, x], argTypes := #[t, t] })
    (base : Nat) (e : TypeId) (i : TypeInfo) (z : Value) (size bytes : Nat) (ht : P.underlying t = some (.slice e)) (hi : P.info? e = some i) (hz : i.zero = some z)
    (hsize : i.size = size) (hby : i.bytes = bytes) (hzs : z.cells.size = size) (hsz : 0 < size)
    (v : Value) (n : Nat) (xs : List Value) (hs : a.eval s = v) (hown : w.ownsRow base e size v n xs)
    (ad : Addr) (m c : Nat) (news : List Value) (hx : a.eval x = .slice (some ad) m c) (hl : news.length = m * size) (hnews : ∀ j u, news[j]? = some u → w.cell? (ad.add j) = some u) (h1 : ∀ u ∈ news, u.oneCell' = true)
    (h63 : n + m ≤ maxLen) (hbytes : (n + m) * bytes ≤ 140737488355328) (hbase : base ≤ w.heap.size)
    (h : ∀ v' w', w'.ownsRow base e size v' (n + m) (xs ++ news) → w.grownBy w' v.ownBlock → (v'.ownBlock = v.ownBlock ∨ v'.ownBlock = some w.heap.size) → K (a.put o.dst v') w') :
    if Region.wanted o (yielded ops a.tmps) = true then Oper.wp P o a w K Q else E := by
  have hw : Region.wanted o (yielded ops a.tmps) = true := by simp [Region.wanted, hgd]
  rw [if_pos hw]
  obtain ⟨v', w', hr, h2, h3, h4, h5⟩ := run_append_own_at (P := P) w base t o.type e i z size bytes ht hi hz hsize hby hzs hsz v n xs hown ad m c news hl hnews h1 h63 hbytes hbase
  unfold Oper.wp execOp
  simp only [ho, resolve, invoke, builtin, Sem.run_bind, Sem.run_pure, Result.andThen_ok, List.map_toArray, List.map_cons, List.map_nil, hs, hx, hr]
  exact h v' w' h2 h3 h5
theorem M.nine_nt (w : World) (p : M.DumpD × Value) (T : TypeId) : ∀ j u, (M.dcells p)[j]? = some u → (w.alloc (.cells #[.int .i64 p.1.id, .string p.1.host, .int .i64 p.1.run, .int .i64 p.1.lev, .int .i64 p.1.base, .int .i64 p.1.day, .int .i64 p.1.many, .int .i64 p.1.crc, p.2] T)).cell? ((⟨w.heap.size, 0, none⟩ : Addr).add j) = some u := by
  intro j u hu
  rw [Addr.add_lit, Nat.zero_add, World.cell?_alloc_mark]
  simpa [M.dcells] using hu
theorem M.oneCell9 (d : M.DumpD) (a : Option Addr) (n c : Nat) : ∀ u ∈ M.dcells (d, .slice a n c), u.oneCell' = true := by
  intro u hu
  simp [M.dcells] at hu
  rcases hu with rfl | rfl | rfl | rfl | rfl | rfl | rfl | rfl | rfl <;> rfl

theorem M.afterApp {w W1 W2 : World} {o : Obj} {b0 base k B : Nat} {ds : List M.DumpD} {D : DataW Value} {V : ByteArray → Value} {d : M.DumpD} {v v' : Value} {qs : List (M.DumpD × Value)} {pa : Option Addr} {pn pc : Nat} {bo : Obj}
    (hGA : ∀ o, M.GrpD w (W1.alloc o).drew b0 base k ds D V) (hGR : ∀ o, W1.grownBy (W1.alloc o).drew v.ownBlock) (h1 : qs.map Prod.fst = M.ofH ds d.host) (h3 : ∀ p ∈ qs, ∃ a n c, p.2 = .slice a n c ∧ M.Pts w a n c p.1.ps) (hpt : M.Pts w pa pn pc d.ps)
    (hv : v = V d.host) (hvb : ∀ g, v.ownBlock = some g → g < B) (hV1 : W1.heap[B]? = some bo) (hB1 : Below w.heap.size w W1) (hBW : base ≤ B) (hz : d.host.size ≤ maxLen) (hk : k < maxLen) (hBS : W1.heap.size = B + 1)
    (hown : W2.ownsRow base 36 9 v' (qs.length + 1) (M.cellsD qs ++ M.dcells (d, .slice pa pn pc))) (hg : (W1.alloc o).drew.grownBy W2 v.ownBlock) (hat : v'.ownBlock = v.ownBlock ∨ v'.ownBlock = some (W1.alloc o).drew.heap.size) (hwb : w.heap.size ≤ b0) :
    ∃ W3, (Instr.mapUpdate 55 (.map (some b0)) (.string d.host) v').run Try.prog W2 = .ok () W3 ∧ (∃ D' V', M.GrpD w W3 b0 base (k + 1) (ds ++ [d]) D' V') ∧ W3.heap[B]? = some bo ∧ Below w.heap.size w W3 ∧ W2.heap[B]? = some bo := by
  have hb0 := (hGA o).lt
  have hoR : M.OwnR w W2 base v' (M.ofH ds d.host ++ [d]) := by
    refine ⟨qs ++ [(d, .slice pa pn pc)], by simp [h1], by rw [M.cellsD_app, M.cellsD_one, List.length_append]; exact hown, fun p hp => ?_⟩
    rcases List.mem_append.1 hp with h | h
    · exact h3 p h
    · simp at h
      subst h
      exact ⟨pa, pn, pc, rfl, hpt⟩
  have hlt : ∀ g, v.ownBlock = some g → base ≤ g := fun g e => by rw [hv] at e; exact (((hGA o).row d.host).lt g e).1
  obtain ⟨W3, hrun, hG3, hg3⟩ := (hGA o).store hoR (by rw [← hv]; exact hg) (by rw [← hv]; exact hat) hk hz
  have hg1 : W1.grownBy W2 v.ownBlock := (hGR o).trans hg
  have hV2 : W2.heap[B]? = some bo := (hg1.block B (by omega) (fun e => by have := hvb B e.symm; omega)).trans hV1
  have hBel2 : Below w.heap.size w W2 := hB1.trans ⟨hg1.os, hg1.tape, hg1.output, hg1.size, fun j hj => hg1.block j (by have := hB1.size; omega) (fun e => by have := hlt j e.symm; omega)⟩
  refine ⟨W3, hrun, hG3, (hg3.block B (Array.getElem?_eq_some_iff.1 hV2).1 (fun e => by cases e; omega)).trans hV2, ?_, hV2⟩
  exact hBel2.trans ⟨hg3.os, hg3.tape, hg3.output, hg3.size, fun j hj => hg3.block j (by have := hBel2.size; omega) (fun e => by cases e; omega)⟩

set_option maxRecDepth 100000 in
set_option maxHeartbeats 3200000 in
theorem iByHost_any (w : World) (a : Option Addr) (n c : Nat) (ds : List M.DumpD) (h : M.Dps w a n c ds) (hok : ∀ d ∈ ds, d.host.size ≤ maxLen) (hn40 : n ≤ 400) :
    Calls Try.prog 31 #[.slice a n c] w fun e w' => e = .returned (.map (some w.heap.size)) ∧ (∃ D V, M.GrpD w w' w.heap.size (w.heap.size + 1) n ds D V) ∧ Below w.heap.size w w' := by
  obtain ⟨i0, hi, hz0, hz1, hz2⟩ := info_parts Try.infoDp
  have hlm : n ≤ 9223372036854775807 := h.max
  have HF := M.hl h
  have HN : Hid (n = ds.length) := h.1
  have HOK := M.hl hok
  clear h hok
  have hmm : (Instr.makeMap 55 none).run Try.prog w = .ok (.map (some w.heap.size)) (w.alloc (.map #[] 0)) := by unfold Instr.makeMap; simp [go_sem]
  go_enter Try.func31, Try.ntmps31
  go_wp2
  go_loopw [9] (fun i wr => ∃ k : Nat, i = .int .i64 k ∧ k ≤ n ∧ Hid (∃ D V, M.GrpD w wr w.heap.size (w.heap.size + 1) k (ds.take k) D V) ∧ Hid (Below w.heap.size w wr)) (fun i _ => n - (intOf i).toNat)
  case atStart => exact ⟨0, rfl, Nat.zero_le _, ⟨_, _, M.GrpD.start w w⟩, (Below.refl _ _).alloc (Nat.le_refl _) _⟩
  case round =>
    obtain ⟨k, rfl, hk, HG, HBr⟩ := hrel
    by_cases hlt : k < n
    · obtain ⟨b, off, d, rfl, hfk, ⟨c0, c1, c2, c3, c4, c5, c6, c7⟩, pa, pn, pc, c8, hp⟩ := (HF.out.below HBr.out).at hlt
      have HFK := M.hl hfk
      have HPT : Hid (M.Pts w pa pn pc d.ps) := by
        obtain ⟨b', off', d', e1, e2, -, qa, qn, qc, c8', hp'⟩ := HF.out.at hlt
        cases e1
        have e3 := (hfk.symm.trans e2)
        obtain rfl := Option.some.inj e3
        have hh := (World.cell?_of_block (a := ⟨b, off + k * 9 + 8, none⟩) (HBr.out.block b (World.block_lt_of_cell? w _ c8'))).trans c8'
        rw [c8] at hh
        cases hh
        exact hp'
      obtain ⟨D, V, hG⟩ := HG.out
      obtain ⟨B, hB⟩ : ∃ B, B = wr.heap.size := ⟨_, rfl⟩
      obtain ⟨W1, hW1⟩ : ∃ W1, W1 = wr.alloc (.cells #[.int .i64 d.id, .string d.host, .int .i64 d.run, .int .i64 d.lev, .int .i64 d.base, .int .i64 d.day, .int .i64 d.many, .int .i64 d.crc, .slice pa pn pc] 36) := ⟨_, rfl⟩
      have HW1 := M.hl hW1
      have HBB := M.hl hB
      have hV1 : W1.heap[B]? = some (.cells #[.int .i64 d.id, .string d.host, .int .i64 d.run, .int .i64 d.lev, .int .i64 d.base, .int .i64 d.day, .int .i64 d.many, .int .i64 d.crc, .slice pa pn pc] 36 (0, 0)) := by rw [hW1, hB]; exact heap_alloc_new _ _
      have HV1 := M.hl hV1
      have HG1 : Hid (M.GrpD w W1 w.heap.size (w.heap.size + 1) k (ds.take k) D V) := by rw [hW1]; exact hG.below ((Below.refl _ _).alloc (Nat.le_refl _) _)
      have HB1 : Hid (Below w.heap.size w W1) := by rw [hW1]; exact HBr.out.alloc HBr.out.size _
      have hz := HOK.out d (List.mem_of_getElem? hfk)
      have HZ := M.hl hz
      obtain ⟨v, hv⟩ : ∃ v, v = V d.host := ⟨_, rfl⟩
      have HV := M.hl hv
      obtain ⟨qs, e1, e2, e3⟩ : ∃ qs : List (M.DumpD × Value), qs.map Prod.fst = M.ofH (ds.take k) d.host ∧ W1.ownsRow (w.heap.size + 1) 36 9 v qs.length (M.cellsD qs) ∧ ∀ p ∈ qs, ∃ a n c, p.2 = .slice a n c ∧ M.Pts w a n c p.1.ps := by rw [hv]; exact HG1.out.row d.host
      have HQ1 := M.hl e1
      have HQ2 := M.hl e2
      have HQ3 := M.hl e3
      have hql : qs.length ≤ k := by
        have := congrArg List.length e1
        rw [List.length_map] at this
        have h2 : (M.ofH (ds.take k) d.host).length ≤ (ds.take k).length := List.length_filter_le _ _
        rw [List.length_take] at h2
        omega
      have hl1 : (Instr.lookup 55 (.map (some w.heap.size)) (.string d.host) false).run Try.prog W1.drew = .ok v W1.drew := by rw [hv]; exact (HG1.out.below (Below.refl _ _).drew).lookup hz
      have hl2 : (Instr.lookup 55 (.map (some w.heap.size)) (.string d.host) false).run Try.prog (W1.alloc (.cells #[.int .i64 d.id, .string d.host, .int .i64 d.run, .int .i64 d.lev, .int .i64 d.base, .int .i64 d.day, .int .i64 d.many, .int .i64 d.crc, .slice pa pn pc] 36)).drew = .ok v (W1.alloc (.cells #[.int .i64 d.id, .string d.host, .int .i64 d.run, .int .i64 d.lev, .int .i64 d.base, .int .i64 d.day, .int .i64 d.many, .int .i64 d.crc, .slice pa pn pc] 36)).drew := by rw [hv]; exact (HG1.out.below ((Below.refl _ _).alloc (Nat.le_refl _) _).drew).lookup hz
      have bs1 : W1.heap.size = B + 1 := by rw [hW1, hB]; simp
      have HBS := M.hl bs1
      have HBW : Hid (w.heap.size + 1 ≤ B) := by
        have h1 := HG1.out.own.lt
        have h2 := hG.own.lt
        show _ ≤ _
        omega
      have HVB : Hid (∀ g, v.ownBlock = some g → g < B) := fun g hg => by
        rw [hv] at hg
        have := ((hG.row d.host).lt g hg).2
        omega
      have HQ2A : Hid (∀ o, (W1.alloc o).drew.ownsRow (w.heap.size + 1) 36 9 v qs.length (M.cellsD qs)) := fun o => (World.ownsRow.alloc HQ2.out o)
      have HBA : Hid (∀ o, w.heap.size + 1 ≤ (W1.alloc o).drew.heap.size) := fun o => by
        have h1 : (W1.alloc o).drew.heap.size = W1.heap.size + 1 := by show (W1.alloc o).heap.size = _; simp
        have := HBW.out
        omega
      have HGA : Hid (∀ o, M.GrpD w (W1.alloc o).drew w.heap.size (w.heap.size + 1) k (ds.take k) D V) := fun o => HG1.out.below ((Below.refl _ _).alloc (Nat.le_refl _) _).drew
      have HGR : Hid (∀ o, W1.grownBy (W1.alloc o).drew v.ownBlock) := fun o => by
        have hb : Below W1.heap.size W1 (W1.alloc o).drew := ((Below.refl _ _).alloc (Nat.le_refl _) _).drew
        exact ⟨hb.os, hb.tape, hb.output, hb.size, fun i hi _ => hb.block i hi⟩
      have hk400 : k ≤ 400 := by omega
      clear hfk hp hG hv e1 e2 e3 hV1 bs1
      have s0 : W1.cell? ⟨B, 0, none⟩ = some (.int .i64 d.id) := M.bk_cell HV1.out 0 _ rfl
      have s1 : W1.cell? ⟨B, 1, none⟩ = some (.string d.host) := M.bk_cell HV1.out 1 _ rfl
      have s2 : W1.cell? ⟨B, 2, none⟩ = some (.int .i64 d.run) := M.bk_cell HV1.out 2 _ rfl
      have s3 : W1.cell? ⟨B, 3, none⟩ = some (.int .i64 d.lev) := M.bk_cell HV1.out 3 _ rfl
      have s4 : W1.cell? ⟨B, 4, none⟩ = some (.int .i64 d.base) := M.bk_cell HV1.out 4 _ rfl
      have s5 : W1.cell? ⟨B, 5, none⟩ = some (.int .i64 d.day) := M.bk_cell HV1.out 5 _ rfl
      have s6 : W1.cell? ⟨B, 6, none⟩ = some (.int .i64 d.many) := M.bk_cell HV1.out 6 _ rfl
      have s7 : W1.cell? ⟨B, 7, none⟩ = some (.int .i64 d.crc) := M.bk_cell HV1.out 7 _ rfl
      have s8 : W1.cell? ⟨B, 8, none⟩ = some (.slice pa pn pc) := M.bk_cell HV1.out 8 _ rfl
      go_wp2_with fail
      rw [← hB, ← hW1]
      clear hB hW1
      go_region_held_law (fun w' => w'.cell? ⟨B, 0, none⟩ = some (.int .i64 d.id) ∧ w'.cell? ⟨B, 1, none⟩ = some (.string d.host) ∧ w'.cell? ⟨B, 2, none⟩ = some (.int .i64 d.run) ∧ w'.cell? ⟨B, 3, none⟩ = some (.int .i64 d.lev) ∧ w'.cell? ⟨B, 4, none⟩ = some (.int .i64 d.base) ∧ w'.cell? ⟨B, 5, none⟩ = some (.int .i64 d.day) ∧ w'.cell? ⟨B, 6, none⟩ = some (.int .i64 d.many) ∧ w'.cell? ⟨B, 7, none⟩ = some (.int .i64 d.crc) ∧ w'.cell? ⟨B, 8, none⟩ = some (.slice pa pn pc)) (first | (with_reducible exact ⟨s0, s1, s2, s3, s4, s5, s6, s7, s8⟩) | (with_reducible exact ⟨u0, u1, u2, u3, u4, u5, u6, u7, u8⟩) | (with_reducible exact ⟨t0, t1, t2, t3, t4, t5, t6, t7, t8⟩) | go_keep) (first | (refine M.step_own_at rfl (.tmp 19) (.tmp 21) 25 rfl (w.heap.size + 1) 36 i0 (.agg #[.int .i64 0, .string ⟨#[]⟩, .int .i64 0, .int .i64 0, .int .i64 0, .int .i64 0, .int .i64 0, .int .i64 0, .slice none 0 0]) 9 96 Try.underlying25 hi hz0 hz1 hz2 rfl (by decide) v qs.length (M.cellsD qs) (by simp [Act.eval]) (HQ2A.out _) ⟨W1.heap.size, 0, none⟩ 1 1 (M.dcells (d, .slice pa pn pc)) (by simp [Act.eval]) rfl (M.nine_nt W1 (d, .slice pa pn pc) _) (M.oneCell9 d pa pn pc) (by unfold maxLen; omega) (by omega) (HBA.out _) ?_; intro v' W2 hown' hgrow hat; obtain ⟨W3, hup, hG3, hV3, hB3, hV2⟩ := M.afterApp HGA.out HGR.out HQ1.out HQ3.out HPT.out HV.out HVB.out HV1.out HB1.out HBW.out HZ.out (by unfold maxLen; omega) HBS.out hown' hgrow hat (Nat.le_refl _); have V2 := M.hl hV2; have V3 := M.hl hV3; have G3 := M.hl hG3; have B3 := M.hl hB3; have u0 : W2.cell? ⟨B, 0, none⟩ = some (.int .i64 d.id) := M.bk_cell V2.out 0 _ rfl; have u1 : W2.cell? ⟨B, 1, none⟩ = some (.string d.host) := M.bk_cell V2.out 1 _ rfl; have u2 : W2.cell? ⟨B, 2, none⟩ = some (.int .i64 d.run) := M.bk_cell V2.out 2 _ rfl; have u3 : W2.cell? ⟨B, 3, none⟩ = some (.int .i64 d.lev) := M.bk_cell V2.out 3 _ rfl; have u4 : W2.cell? ⟨B, 4, none⟩ = some (.int .i64 d.base) := M.bk_cell V2.out 4 _ rfl; have u5 : W2.cell? ⟨B, 5, none⟩ = some (.int .i64 d.day) := M.bk_cell V2.out 5 _ rfl; have u6 : W2.cell? ⟨B, 6, none⟩ = some (.int .i64 d.many) := M.bk_cell V2.out 6 _ rfl; have u7 : W2.cell? ⟨B, 7, none⟩ = some (.int .i64 d.crc) := M.bk_cell V2.out 7 _ rfl; have u8 : W2.cell? ⟨B, 8, none⟩ = some (.slice pa pn pc) := M.bk_cell V2.out 8 _ rfl; have t0 : W3.cell? ⟨B, 0, none⟩ = some (.int .i64 d.id) := M.bk_cell V3.out 0 _ rfl; have t1 : W3.cell? ⟨B, 1, none⟩ = some (.string d.host) := M.bk_cell V3.out 1 _ rfl; have t2 : W3.cell? ⟨B, 2, none⟩ = some (.int .i64 d.run) := M.bk_cell V3.out 2 _ rfl; have t3 : W3.cell? ⟨B, 3, none⟩ = some (.int .i64 d.lev) := M.bk_cell V3.out 3 _ rfl; have t4 : W3.cell? ⟨B, 4, none⟩ = some (.int .i64 d.base) := M.bk_cell V3.out 4 _ rfl; have t5 : W3.cell? ⟨B, 5, none⟩ = some (.int .i64 d.day) := M.bk_cell V3.out 5 _ rfl; have t6 : W3.cell? ⟨B, 6, none⟩ = some (.int .i64 d.many) := M.bk_cell V3.out 6 _ rfl; have t7 : W3.cell? ⟨B, 7, none⟩ = some (.int .i64 d.crc) := M.bk_cell V3.out 7 _ rfl; have t8 : W3.cell? ⟨B, 8, none⟩ = some (.slice pa pn pc) := M.bk_cell V3.out 8 _ rfl; clear hown' hgrow hat hV2 hV3 hG3 hB3))
      all_goals
        have HGN : Hid (∃ D V, M.GrpD w W3 w.heap.size (w.heap.size + 1) (k + 1) (ds.take (k + 1)) D V) := by
          show ∃ D V, _
          rw [List.take_add_one, HFK.out]
          exact G3.out
        clear s0 s1 s2 s3 s4 s5 s6 s7 s8 u0 u1 u2 u3 u4 u5 u6 u7 u8 t0 t1 t2 t3 t4 t5 t6 t7 t8 hl1 hl2 c0 c1 c2 c3 c4 c5 c6 c7 c8
        go_wp2
        go_roundw
        case rel => exact ⟨k + 1, by go_num, by omega, HGN, B3⟩
        case measure => simp [intOf]; omega
    · have HT : Hid (∃ D V, M.GrpD w wr w.heap.size (w.heap.size + 1) n ds D V) := by
        obtain rfl : k = n := by omega
        have := HG.out
        rw [List.take_of_length_le (by have := HN.out; omega)] at this
        exact this
      go_wp2
      go_ret
      exact ⟨rfl, HT.out, HBr.out⟩
end Go.Proofs.Ytpokcbcffijheab
