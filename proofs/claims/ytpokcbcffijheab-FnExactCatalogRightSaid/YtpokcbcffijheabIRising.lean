/-
  What rising of the program does, with the numbers that it is called with.
-/
import Derived.Test.YtpokcbcffijheabICatBase
import Derived.Deep.RegionWith
import Derived.Deep.QuietTactic
namespace Go.Proofs.Ytpokcbcffijheab
open Go.RowKit

set_option maxRecDepth 100000 in
set_option maxHeartbeats 400000 in
theorem iIdOf_any (w : World) (x1 : Int) (hs : ByteArray) (x2 x3 x4 x5 x6 x7 : Int) (a : Option Addr) (n c : Nat) :
    Calls Try.prog 30 #[.agg #[.int .i64 x1, .string hs, .int .i64 x2, .int .i64 x3, .int .i64 x4, .int .i64 x5, .int .i64 x6, .int .i64 x7, .slice a n c]] w fun e w' => e = .returned (.int .i64 x1) ∧ Below w.heap.size w w' := by
  have HB : Hid (∀ o, Below w.heap.size w (w.alloc o)) := fun o => (Below.refl _ _).alloc (Nat.le_refl _) _
  go_enter Try.func30, Try.ntmps30
  go_wp2
  go_ret
  exact ⟨rfl, HB.out _⟩

set_option maxRecDepth 100000 in
set_option maxHeartbeats 3200000 in
theorem iRis_idOf_any (w : World) (a : Option Addr) (n c : Nat) (ds : List M.DumpD) (h : M.Dps w a n c ds) :
    Calls Try.prog 29 #[.slice a n c, .func (.func 30) #[] #[]] w fun e w' => ∃ v : Bool, e = .returned (.bool v) ∧ (v = true ↔ M.risF (·.id) ds) ∧ Below w.heap.size w w' := by
  have hlm : n ≤ 9223372036854775807 := h.max
  have HF := M.hl h
  have HN : Hid (n = ds.length) := h.1
  clear h
  go_enter Try.func29, Try.ntmps29
  go_wp2
  go_loopw [5] (fun i wr => ∃ k : Nat, i = .int .i64 k ∧ 1 ≤ k ∧ (k ≤ n ∨ k = 1) ∧ Hid (∀ i x y, i + 1 < k → ds[i]? = some x → ds[i + 1]? = some y → x.id < y.id) ∧ Hid (Below w.heap.size w wr)) (fun i _ => n - (intOf i).toNat)
  case atStart => exact ⟨1, rfl, Nat.le_refl _, .inr rfl, (fun i x y hi => by omega), Below.refl _ _⟩
  case round =>
    obtain ⟨k, rfl, hk1, hk, HA, HBr⟩ := hrel
    by_cases hlt : k < n
    · obtain ⟨j, hj0⟩ : ∃ j, k = j + 1 := ⟨k - 1, by omega⟩
      have HJ := M.hl hj0
      have hjn : j < n := by omega
      obtain ⟨b, off, f, rfl, hfk, ⟨c0, c1, c2, c3, c4, c5, c6, c7⟩, pa, pn, pc, c8, -⟩ := (HF.out.below HBr.out).at hlt
      obtain ⟨b', off', g, hbo, hgj, ⟨e0, e1, e2, e3, e4, e5, e6, e7⟩, qa, qn, qc, e8, -⟩ := (HF.out.below HBr.out).at hjn
      cases hbo
      have HFK := M.hl hfk
      have HGJ := M.hl hgj
      have CG : Hid (∀ W, Calls Try.prog 30 #[.agg #[.int .i64 g.id, .string g.host, .int .i64 g.run, .int .i64 g.lev, .int .i64 g.base, .int .i64 g.day, .int .i64 g.many, .int .i64 g.crc, .slice qa qn qc]] W fun e w' => e = .returned (.int .i64 g.id) ∧ Below W.heap.size W w') := fun W => iIdOf_any W g.id g.host g.run g.lev g.base g.day g.many g.crc qa qn qc
      have CF : Hid (∀ W, Calls Try.prog 30 #[.agg #[.int .i64 f.id, .string f.host, .int .i64 f.run, .int .i64 f.lev, .int .i64 f.base, .int .i64 f.day, .int .i64 f.many, .int .i64 f.crc, .slice pa pn pc]] W fun e w' => e = .returned (.int .i64 f.id) ∧ Below W.heap.size W w') := fun W => iIdOf_any W f.id f.host f.run f.lev f.base f.day f.many f.crc pa pn pc
      have hj : (k : Int) - 1 = (j : Int) := by omega
      have hjl : (j : Int) < (n : Int) := by omega
      have hkl : (k : Int) < (n : Int) := by omega
      have HLT := M.hl hlt
      have p0 := M.Wd.cell (w := wr) e0
      have p1 := M.Wd.cell (w := wr) e1
      have p2 := M.Wd.cell (w := wr) e2
      have p3 := M.Wd.cell (w := wr) e3
      have p4 := M.Wd.cell (w := wr) e4
      have p5 := M.Wd.cell (w := wr) e5
      have p6 := M.Wd.cell (w := wr) e6
      have p7 := M.Wd.cell (w := wr) e7
      have p8 := M.Wd.cell (w := wr) e8
      have q0 := M.Wd.cell (w := wr) c0
      have q1 := M.Wd.cell (w := wr) c1
      have q2 := M.Wd.cell (w := wr) c2
      have q3 := M.Wd.cell (w := wr) c3
      have q4 := M.Wd.cell (w := wr) c4
      have q5 := M.Wd.cell (w := wr) c5
      have q6 := M.Wd.cell (w := wr) c6
      have q7 := M.Wd.cell (w := wr) c7
      have q8 := M.Wd.cell (w := wr) c8
      clear c0 c1 c2 c3 c4 c5 c6 c7 c8 e0 e1 e2 e3 e4 e5 e6 e7 e8 hfk hgj hj0 hjn
      by_cases hle : f.id ≤ g.id
      · have HX : Hid (¬ M.risF (·.id) ds) := fun hr => by
          have h1 := hr j g f HGJ.out (by rw [← HJ.out]; exact HFK.out)
          simp only at h1
          omega
        have d0 : decide (f.id ≤ g.id) = true := decide_eq_true hle
        clear hle
        go_wp2_with fail
        refine M.wp_region_wd (by kernel_rfl) (by kernel_rfl) (fun _ => ?_)
        repeat (first | go_big_quiet_skip | (go_big_quiet_want; go_big_quiet_op; first | go_big_quiet_on | (apply Exists.intro; refine ⟨fun x => ?_, ?_⟩; (first | with_reducible exact M.Wd.call x (CG.out x.val) | with_reducible exact M.Wd.call x (CF.out x.val)); go_big_quiet_on)))
        refine wpQuiet_nil ?_
        intro w2 hw'
        have HB2 : Hid (Below w.heap.size w w2) := by obtain ⟨x, rfl⟩ := hw'; exact HBr.out.trans (x.bel.mono HBr.out.size)
        clear hw' p0 p1 p2 p3 p4 p5 p6 p7 p8 q0 q1 q2 q3 q4 q5 q6 q7 q8
        go_wp2
        go_ret
        exact ⟨false, rfl, ⟨fun h => (by cases h), fun h => absurd h HX.out⟩, HB2.out⟩
      · have HA2 : Hid (∀ i x y, i + 1 < k + 1 → ds[i]? = some x → ds[i + 1]? = some y → x.id < y.id) := by
          intro i x y hi hx hy
          by_cases hij : i = j
          · subst hij
            rw [HGJ.out] at hx
            rw [← HJ.out, HFK.out] at hy
            obtain rfl := Option.some.inj hx
            obtain rfl := Option.some.inj hy
            omega
          · exact HA.out i x y (by have := HJ.out; omega) hx hy
        have d0 : decide (f.id ≤ g.id) = false := decide_eq_false hle
        clear hle
        go_wp2_with fail
        refine M.wp_region_wd (by kernel_rfl) (by kernel_rfl) (fun _ => ?_)
        repeat (first | go_big_quiet_skip | (go_big_quiet_want; go_big_quiet_op; first | go_big_quiet_on | (apply Exists.intro; refine ⟨fun x => ?_, ?_⟩; (first | with_reducible exact M.Wd.call x (CG.out x.val) | with_reducible exact M.Wd.call x (CF.out x.val)); go_big_quiet_on)))
        refine wpQuiet_nil ?_
        intro w2 hw'
        have HB2 : Hid (Below w.heap.size w w2) := by obtain ⟨x, rfl⟩ := hw'; exact HBr.out.trans (x.bel.mono HBr.out.size)
        clear hw' p0 p1 p2 p3 p4 p5 p6 p7 p8 q0 q1 q2 q3 q4 q5 q6 q7 q8 hj hjl hkl
        go_wp2
        go_roundw
        case rel => exact ⟨k + 1, by go_num, by omega, .inl (by have := HLT.out; omega), HA2, HB2⟩
        case measure => have := HLT.out; simp [intOf]; omega
    · have HX : Hid (M.risF (·.id) ds) := by
        intro i x y hx hy
        have := (List.getElem?_eq_some_iff.1 hy).1
        exact HA.out i x y (by have := HN.out; omega) hx hy
      go_wp2
      go_ret
      exact ⟨true, rfl, ⟨fun _ => HX.out, fun _ => rfl⟩, HBr.out⟩

set_option maxRecDepth 100000 in
set_option maxHeartbeats 400000 in
theorem iRunOf_any (w : World) (x1 : Int) (hs : ByteArray) (x2 x3 x4 x5 x6 x7 : Int) (a : Option Addr) (n c : Nat) :
    Calls Try.prog 34 #[.agg #[.int .i64 x1, .string hs, .int .i64 x2, .int .i64 x3, .int .i64 x4, .int .i64 x5, .int .i64 x6, .int .i64 x7, .slice a n c]] w fun e w' => e = .returned (.int .i64 x2) ∧ Below w.heap.size w w' := by
  have HB : Hid (∀ o, Below w.heap.size w (w.alloc o)) := fun o => (Below.refl _ _).alloc (Nat.le_refl _) _
  go_enter Try.func34, Try.ntmps34
  go_wp2
  go_ret
  exact ⟨rfl, HB.out _⟩

set_option maxRecDepth 100000 in
set_option maxHeartbeats 3200000 in
theorem iRis_runOf_any (w : World) (a : Option Addr) (n c : Nat) (ds : List M.DumpD) (h : M.Dps w a n c ds) :
    Calls Try.prog 29 #[.slice a n c, .func (.func 34) #[] #[]] w fun e w' => ∃ v : Bool, e = .returned (.bool v) ∧ (v = true ↔ M.risF (·.run) ds) ∧ Below w.heap.size w w' := by
  have hlm : n ≤ 9223372036854775807 := h.max
  have HF := M.hl h
  have HN : Hid (n = ds.length) := h.1
  clear h
  go_enter Try.func29, Try.ntmps29
  go_wp2
  go_loopw [5] (fun i wr => ∃ k : Nat, i = .int .i64 k ∧ 1 ≤ k ∧ (k ≤ n ∨ k = 1) ∧ Hid (∀ i x y, i + 1 < k → ds[i]? = some x → ds[i + 1]? = some y → x.run < y.run) ∧ Hid (Below w.heap.size w wr)) (fun i _ => n - (intOf i).toNat)
  case atStart => exact ⟨1, rfl, Nat.le_refl _, .inr rfl, (fun i x y hi => by omega), Below.refl _ _⟩
  case round =>
    obtain ⟨k, rfl, hk1, hk, HA, HBr⟩ := hrel
    by_cases hlt : k < n
    · obtain ⟨j, hj0⟩ : ∃ j, k = j + 1 := ⟨k - 1, by omega⟩
      have HJ := M.hl hj0
      have hjn : j < n := by omega
      obtain ⟨b, off, f, rfl, hfk, ⟨c0, c1, c2, c3, c4, c5, c6, c7⟩, pa, pn, pc, c8, -⟩ := (HF.out.below HBr.out).at hlt
      obtain ⟨b', off', g, hbo, hgj, ⟨e0, e1, e2, e3, e4, e5, e6, e7⟩, qa, qn, qc, e8, -⟩ := (HF.out.below HBr.out).at hjn
      cases hbo
      have HFK := M.hl hfk
      have HGJ := M.hl hgj
      have CG : Hid (∀ W, Calls Try.prog 34 #[.agg #[.int .i64 g.id, .string g.host, .int .i64 g.run, .int .i64 g.lev, .int .i64 g.base, .int .i64 g.day, .int .i64 g.many, .int .i64 g.crc, .slice qa qn qc]] W fun e w' => e = .returned (.int .i64 g.run) ∧ Below W.heap.size W w') := fun W => iRunOf_any W g.id g.host g.run g.lev g.base g.day g.many g.crc qa qn qc
      have CF : Hid (∀ W, Calls Try.prog 34 #[.agg #[.int .i64 f.id, .string f.host, .int .i64 f.run, .int .i64 f.lev, .int .i64 f.base, .int .i64 f.day, .int .i64 f.many, .int .i64 f.crc, .slice pa pn pc]] W fun e w' => e = .returned (.int .i64 f.run) ∧ Below W.heap.size W w') := fun W => iRunOf_any W f.id f.host f.run f.lev f.base f.day f.many f.crc pa pn pc
      have hj : (k : Int) - 1 = (j : Int) := by omega
      have hjl : (j : Int) < (n : Int) := by omega
      have hkl : (k : Int) < (n : Int) := by omega
      have HLT := M.hl hlt
      have p0 := M.Wd.cell (w := wr) e0
      have p1 := M.Wd.cell (w := wr) e1
      have p2 := M.Wd.cell (w := wr) e2
      have p3 := M.Wd.cell (w := wr) e3
      have p4 := M.Wd.cell (w := wr) e4
      have p5 := M.Wd.cell (w := wr) e5
      have p6 := M.Wd.cell (w := wr) e6
      have p7 := M.Wd.cell (w := wr) e7
      have p8 := M.Wd.cell (w := wr) e8
      have q0 := M.Wd.cell (w := wr) c0
      have q1 := M.Wd.cell (w := wr) c1
      have q2 := M.Wd.cell (w := wr) c2
      have q3 := M.Wd.cell (w := wr) c3
      have q4 := M.Wd.cell (w := wr) c4
      have q5 := M.Wd.cell (w := wr) c5
      have q6 := M.Wd.cell (w := wr) c6
      have q7 := M.Wd.cell (w := wr) c7
      have q8 := M.Wd.cell (w := wr) c8
      clear c0 c1 c2 c3 c4 c5 c6 c7 c8 e0 e1 e2 e3 e4 e5 e6 e7 e8 hfk hgj hj0 hjn
      by_cases hle : f.run ≤ g.run
      · have HX : Hid (¬ M.risF (·.run) ds) := fun hr => by
          have h1 := hr j g f HGJ.out (by rw [← HJ.out]; exact HFK.out)
          simp only at h1
          omega
        have d0 : decide (f.run ≤ g.run) = true := decide_eq_true hle
        clear hle
        go_wp2_with fail
        refine M.wp_region_wd (by kernel_rfl) (by kernel_rfl) (fun _ => ?_)
        repeat (first | go_big_quiet_skip | (go_big_quiet_want; go_big_quiet_op; first | go_big_quiet_on | (apply Exists.intro; refine ⟨fun x => ?_, ?_⟩; (first | with_reducible exact M.Wd.call x (CG.out x.val) | with_reducible exact M.Wd.call x (CF.out x.val)); go_big_quiet_on)))
        refine wpQuiet_nil ?_
        intro w2 hw'
        have HB2 : Hid (Below w.heap.size w w2) := by obtain ⟨x, rfl⟩ := hw'; exact HBr.out.trans (x.bel.mono HBr.out.size)
        clear hw' p0 p1 p2 p3 p4 p5 p6 p7 p8 q0 q1 q2 q3 q4 q5 q6 q7 q8
        go_wp2
        go_ret
        exact ⟨false, rfl, ⟨fun h => (by cases h), fun h => absurd h HX.out⟩, HB2.out⟩
      · have HA2 : Hid (∀ i x y, i + 1 < k + 1 → ds[i]? = some x → ds[i + 1]? = some y → x.run < y.run) := by
          intro i x y hi hx hy
          by_cases hij : i = j
          · subst hij
            rw [HGJ.out] at hx
            rw [← HJ.out, HFK.out] at hy
            obtain rfl := Option.some.inj hx
            obtain rfl := Option.some.inj hy
            omega
          · exact HA.out i x y (by have := HJ.out; omega) hx hy
        have d0 : decide (f.run ≤ g.run) = false := decide_eq_false hle
        clear hle
        go_wp2_with fail
        refine M.wp_region_wd (by kernel_rfl) (by kernel_rfl) (fun _ => ?_)
        repeat (first | go_big_quiet_skip | (go_big_quiet_want; go_big_quiet_op; first | go_big_quiet_on | (apply Exists.intro; refine ⟨fun x => ?_, ?_⟩; (first | with_reducible exact M.Wd.call x (CG.out x.val) | with_reducible exact M.Wd.call x (CF.out x.val)); go_big_quiet_on)))
        refine wpQuiet_nil ?_
        intro w2 hw'
        have HB2 : Hid (Below w.heap.size w w2) := by obtain ⟨x, rfl⟩ := hw'; exact HBr.out.trans (x.bel.mono HBr.out.size)
        clear hw' p0 p1 p2 p3 p4 p5 p6 p7 p8 q0 q1 q2 q3 q4 q5 q6 q7 q8 hj hjl hkl
        go_wp2
        go_roundw
        case rel => exact ⟨k + 1, by go_num, by omega, .inl (by have := HLT.out; omega), HA2, HB2⟩
        case measure => have := HLT.out; simp [intOf]; omega
    · have HX : Hid (M.risF (·.run) ds) := by
        intro i x y hx hy
        have := (List.getElem?_eq_some_iff.1 hy).1
        exact HA.out i x y (by have := HN.out; omega) hx hy
      go_wp2
      go_ret
      exact ⟨true, rfl, ⟨fun _ => HX.out, fun _ => rfl⟩, HBr.out⟩

end Go.Proofs.Ytpokcbcffijheab
