/-
  What the laws' helpers on deltas do: szDelta, toDelta, eqDelta.
-/
import Derived.Test.YtephjmlcbpfnaaaGreatDoorStrWalks
import Derived.Test.YtephjmlcbpfnaaaGreatDoorPart13
import Derived.Test.YtephjmlcbpfnaaaGreatDoorToF
import Derived.Test.YtephjmlcbpfnaaaGreatDoorPart9
namespace Go.Proofs.YtephjmlcbpfnaaaGreatDoor
open Go.RowKit

theorem M.hidd {p : Prop} (h : p) : Hid p := h
theorem M.sd {a w v : World} (h : Below a.heap.size a w) (h' : Below w.heap.size w v) : Below a.heap.size a v := h.trans (h'.mono h.size)

set_option maxRecDepth 100000 in
set_option maxHeartbeats 800000 in
theorem szDelta_any (w : World) (a1 a2 : Option Addr) (n1 c1 n2 c2 : Nat) (ss : List ByteArray) (fs : List M.FileD) (left : Int) (h1 : M.Strs w a1 n1 c1 ss) (h2 : M.Files w a2 n2 c2 fs) (o1 : ∀ s ∈ ss, s.size ≤ maxLen) (o2 : ∀ f ∈ fs, M.fok f) (h3 : 0 ≤ left) (h4 : left ≤ 1048576) :
    Calls Tryz.prog 6 #[.agg #[.slice a1 n1 c1, .slice a2 n2 c2], .int .i64 left] w fun e w' => ∃ v : Int, e = .returned (.int .i64 v) ∧ v ≤ 1048576 ∧ (0 ≤ v → (n1 : Int) ≤ 1048576 ∧ (n2 : Int) ≤ 1048576 ∧ (∀ s ∈ ss, (s.size : Int) ≤ 1048576) ∧ ∀ f ∈ fs, (f.path.size : Int) + f.data.size ≤ 1048576) ∧ Below w.heap.size w w' := by
  have HB : Hid (∀ o, Below w.heap.size w (w.alloc o)) := fun o => (Below.refl _ _).alloc (Nat.le_refl _) _
  have CS : Hid (∀ o, Calls Tryz.prog 20 #[.slice a1 n1 c1, .int .i64 left] (w.alloc o) fun e w' => ∃ v : Int, e = .returned (.int .i64 v) ∧ v ≤ 1048576 ∧ (0 ≤ v → (n1 : Int) ≤ left ∧ ∀ s ∈ ss, (s.size : Int) ≤ left) ∧ w.alloc o = w') := fun o => szStringS_any _ a1 n1 c1 ss left (h1.below (HB.out o)) o1 h3 h4
  have CF : Hid (∀ o (l : Int), 0 ≤ l → l ≤ 1048576 → Calls Tryz.prog 21 #[.slice a2 n2 c2, .int .i64 l] (w.alloc o) fun e w' => ∃ v : Int, e = .returned (.int .i64 v) ∧ v ≤ 1048576 ∧ (0 ≤ v → (n2 : Int) ≤ l ∧ ∀ f ∈ fs, (f.path.size : Int) + f.data.size ≤ l) ∧ Below (w.alloc o).heap.size (w.alloc o) w') := fun o l hl hl' => szFileS_any _ a2 n2 c2 fs l (h2.below (HB.out o)) o2 hl hl'
  clear h1 h2 o1 o2
  go_enter Tryz.func6, Tryz.ntmps6
  go_wp2_with fail
  refine (CS.out _).mono ?_
  rintro e w1 ⟨v, rfl, hv1, hv2, rfl⟩
  have HV2 := M.hidd hv2
  clear hv2
  by_cases hneg : v < 0
  · go_wp2
    go_ret
    exact ⟨-1, rfl, by omega, fun h => by omega, HB.out _⟩
  have hx := HV2.out (by omega)
  have HX := M.hidd hx
  clear hx HV2
  go_wp2_with fail
  refine (CF.out _ v (by omega) hv1).mono ?_
  rintro e w2 ⟨u, rfl, hu1, hu2, hb⟩
  have HU2 := M.hidd hu2
  have B2 : Hid (Below w.heap.size w w2) := M.boxed_below hb
  clear hu2 hb
  by_cases hneg2 : u < 0
  · go_wp2
    go_ret
    exact ⟨-1, rfl, by omega, fun h => by omega, B2.out⟩
  · go_wp2
    go_ret
    exact ⟨u, rfl, hu1, fun h => ⟨by have := HX.out.1; omega, by have := (HU2.out h).1; omega, fun s hs => by have := HX.out.2 s hs; omega, fun f hf => by have := (HU2.out h).2 f hf; omega⟩, B2.out⟩

theorem M.three (w : World) (o1 o2 o3 : Obj) : (((w.alloc o1).alloc o2).alloc o3).heap[w.heap.size]? = some o1 ∧ (((w.alloc o1).alloc o2).alloc o3).heap[w.heap.size + 1]? = some o2 ∧ (((w.alloc o1).alloc o2).alloc o3).heap[w.heap.size + 1 + 1]? = some o3 := by
  have e1 : (w.alloc o1).heap.size = w.heap.size + 1 := by simp
  have e2 : ((w.alloc o1).alloc o2).heap.size = w.heap.size + 1 + 1 := by simp
  refine ⟨?_, ?_, ?_⟩
  · rw [heap_alloc_old _ _ (by rw [e2]; omega)]; exact heap_alloc2_old w o1 o2
  · rw [heap_alloc_old _ _ (by rw [e2]; omega)]; exact heap_alloc2_new w o1 o2
  · have := heap_alloc_new ((w.alloc o1).alloc o2) o3
    rwa [e2] at this
theorem M.setfar {w : World} {g b j : Nat} {v : Value} (h : g ≠ b) : (w.setCell ⟨g, j, none⟩ v).heap[b]? = w.heap[b]? := by
  simp only [World.setCell, Array.getElem?_modify]
  rw [if_neg h]

set_option maxRecDepth 100000 in
set_option maxHeartbeats 1600000 in
theorem toDelta_any (w : World) (a1 a2 : Option Addr) (n1 c1 n2 c2 : Nat) (ss : List ByteArray) (fs : List M.FileD) (h1 : M.Strs w a1 n1 c1 ss) (h2 : M.Files w a2 n2 c2 fs) (hl1 : n1 ≤ 1048576) (hl2 : n2 ≤ 1048576) :
    Calls Tryz.prog 8 #[.agg #[.slice a1 n1 c1, .slice a2 n2 c2]] w fun e w' => ∃ b1 b2 : Nat, e = .returned (.agg #[.slice (some ⟨b1, 0, none⟩) n1 n1, .slice (some ⟨b2, 0, none⟩) n2 n2]) ∧
      M.Strs w' (some ⟨b1, 0, none⟩) n1 n1 ss ∧ M.Files w' (some ⟨b2, 0, none⟩) n2 n2 fs ∧ M.Row w' b1 9 n1 ∧ M.Row w' b2 54 (n2 * 5) ∧ w.heap.size ≤ b1 ∧ b1 < b2 ∧ Below w.heap.size w w' := by
  have HB : Hid (∀ o1 o2 o3, Below w.heap.size w (((w.alloc o1).alloc o2).alloc o3)) := fun o1 o2 o3 => (((Below.refl _ _).alloc (Nat.le_refl _) _).alloc (by simp) _).alloc (by simp; omega) _
  have CS : Hid (∀ o1 o2 o3, Calls Tryz.prog 24 #[.slice a1 n1 c1] (((w.alloc o1).alloc o2).alloc o3) fun e w' => e = .returned (.slice (some ⟨w.heap.size + 1 + 1 + 1, 0, none⟩) n1 n1) ∧ M.StrsAt w' (w.heap.size + 1 + 1 + 1) 0 ss ∧ M.Row w' (w.heap.size + 1 + 1 + 1) 9 n1 ∧ Below (((w.alloc o1).alloc o2).alloc o3).heap.size (((w.alloc o1).alloc o2).alloc o3) w') := fun o1 o2 o3 => by
    have := toStringS_any (((w.alloc o1).alloc o2).alloc o3) a1 n1 c1 ss (h1.below (HB.out o1 o2 o3)) hl1
    simpa using this
  have CF : Hid (∀ W, Below w.heap.size w W → Calls Tryz.prog 25 #[.slice a2 n2 c2] W fun e w' => e = .returned (.slice (some ⟨W.heap.size, 0, none⟩) n2 n2) ∧ M.FilesAt w' W.heap.size 0 fs ∧ M.Row w' W.heap.size 54 (n2 * 5) ∧ Below W.heap.size W w') := fun W hW => toFileS_any W a2 n2 c2 fs (h2.below hW) hl2
  have HN1 : Hid (n1 = ss.length) := h1.1
  have HN2 : Hid (n2 = fs.length) := h2.1
  clear h1 h2
  go_enter Tryz.func8, Tryz.ntmps8
  go_wp2_with fail
  refine (CS.out _ _ _).mono ?_
  rintro e w1 ⟨rfl, hat, hrow, hb⟩
  have A1 := M.hidd hat
  have R1 := M.hidd hrow
  have B1 : Hid (Below w.heap.size w w1) := (HB.out _ _ _).trans (hb.mono (HB.out _ _ _).size)
  have hz : w.heap.size + 1 + 1 + 1 < w1.heap.size := hrow.lt
  obtain ⟨t0, t1, t2⟩ := M.three w (.cells #[.slice a1 n1 c1, .slice a2 n2 c2] 25) (.cells #[.slice none 0 0, .slice none 0 0] 29) (.cells #[.slice none 0 0, .slice none 0 0] 29)
  have u0 := (hb.block w.heap.size (by simp; omega)).trans t0
  have u1 := (hb.block (w.heap.size + 1) (by simp)).trans t1
  have u2 := (hb.block (w.heap.size + 1 + 1) (by simp)).trans t2
  have k1 : w1.cell? ⟨w.heap.size, 1, none⟩ = some (.slice a2 n2 c2) := by simp [World.cell?, u0]
  have r0 : w1.cell? ⟨w.heap.size + 1, 0, none⟩ = some (.slice none 0 0) := by simp [World.cell?, u1]
  have r1 : w1.cell? ⟨w.heap.size + 1, 1, none⟩ = some (.slice none 0 0) := by simp [World.cell?, u1]
  have s0 : w1.cell? ⟨w.heap.size + 1 + 1, 0, none⟩ = some (.slice none 0 0) := by simp [World.cell?, u2]
  have s1 : w1.cell? ⟨w.heap.size + 1 + 1, 1, none⟩ = some (.slice none 0 0) := by simp [World.cell?, u2]
  have fr : ∀ j, w1.frozen? ⟨w.heap.size + 1, j, none⟩ = false := fun j => by simp [World.frozen?, u1]
  have ft : ∀ j, w1.frozen? ⟨w.heap.size + 1 + 1, j, none⟩ = false := fun j => by simp [World.frozen?, u2]
  have HU := M.hidd (And.intro u1 u2)
  clear hat hrow hb t0 t1 t2 u0 u1 u2
  obtain ⟨W, hW⟩ : ∃ W, W = w1.setCell ⟨w.heap.size + 1 + 1, 0, none⟩ (.slice (some ⟨w.heap.size + 1 + 1 + 1, 0, none⟩) n1 n1) := ⟨_, rfl⟩
  have BW : Hid (Below w.heap.size w W) := by rw [hW]; exact B1.out.setCell (by simp; omega) _
  have SW : Hid (W.heap.size = w1.heap.size) := by show _ = _; rw [hW]; simp
  have W1 : W.heap[w.heap.size + 1]? = some (.cells #[.slice none 0 0, .slice none 0 0] 29 (0, 0)) := by rw [hW, M.setfar (by omega)]; exact HU.out.1
  have W2 : W.heap[w.heap.size + 1 + 1]? = some (.cells #[.slice (some ⟨w.heap.size + 1 + 1 + 1, 0, none⟩) n1 n1, .slice none 0 0] 29 (0, 0)) := by
    rw [hW]; simp [World.setCell, Array.getElem?_modify, HU.out.2]
  have HW12 := M.hidd (And.intro W1 W2)
  have AW : Hid (M.StrsAt W (w.heap.size + 1 + 1 + 1) 0 ss) := A1.out.of_block (by rw [hW, M.setfar (by omega)])
  have RW : Hid (M.Row W (w.heap.size + 1 + 1 + 1) 9 n1) := R1.out.of_block (by rw [hW, M.setfar (by omega)])
  have CFW := CF.out W BW.out
  rw [hW] at CFW
  have CFW2 := M.hidd CFW
  clear CFW W1 W2
  go_wp2_with fail
  refine CFW2.out.mono ?_
  rintro e w2 ⟨rfl, hat, hrow, hb⟩
  rw [← hW] at hat hrow hb
  have hsz : (w1.setCell ⟨w.heap.size + 1 + 1, 0, none⟩ (.slice (some ⟨w.heap.size + 1 + 1 + 1, 0, none⟩) n1 n1)).heap.size = w1.heap.size := by simp
  have u1 := (hb.block (w.heap.size + 1) (by rw [SW.out]; omega)).trans HW12.out.1
  have u2 := (hb.block (w.heap.size + 1 + 1) (by rw [SW.out]; omega)).trans HW12.out.2
  have p0 : w2.cell? ⟨w.heap.size + 1, 0, none⟩ = some (.slice none 0 0) := by simp [World.cell?, u1]
  have p1 : w2.cell? ⟨w.heap.size + 1, 1, none⟩ = some (.slice none 0 0) := by simp [World.cell?, u1]
  have q0 : w2.cell? ⟨w.heap.size + 1 + 1, 0, none⟩ = some (.slice (some ⟨w.heap.size + 1 + 1 + 1, 0, none⟩) n1 n1) := by simp [World.cell?, u2]
  have q1 : w2.cell? ⟨w.heap.size + 1 + 1, 1, none⟩ = some (.slice none 0 0) := by simp [World.cell?, u2]
  have gr : ∀ j, w2.frozen? ⟨w.heap.size + 1, j, none⟩ = false := fun j => by simp [World.frozen?, u1]
  have gt : ∀ j, w2.frozen? ⟨w.heap.size + 1 + 1, j, none⟩ = false := fun j => by simp [World.frozen?, u2]
  have FIN : Hid (∀ v0 v1 v2, M.StrsAt (((w2.setCell ⟨w.heap.size + 1 + 1, 1, none⟩ v0).setCell ⟨w.heap.size + 1, 0, none⟩ v1).setCell ⟨w.heap.size + 1, 1, none⟩ v2) (w.heap.size + 1 + 1 + 1) 0 ss ∧ M.Row (((w2.setCell ⟨w.heap.size + 1 + 1, 1, none⟩ v0).setCell ⟨w.heap.size + 1, 0, none⟩ v1).setCell ⟨w.heap.size + 1, 1, none⟩ v2) (w.heap.size + 1 + 1 + 1) 9 n1
      ∧ M.FilesAt (((w2.setCell ⟨w.heap.size + 1 + 1, 1, none⟩ v0).setCell ⟨w.heap.size + 1, 0, none⟩ v1).setCell ⟨w.heap.size + 1, 1, none⟩ v2) w1.heap.size 0 fs ∧ M.Row (((w2.setCell ⟨w.heap.size + 1 + 1, 1, none⟩ v0).setCell ⟨w.heap.size + 1, 0, none⟩ v1).setCell ⟨w.heap.size + 1, 1, none⟩ v2) w1.heap.size 54 (n2 * 5)
      ∧ Below w.heap.size w (((w2.setCell ⟨w.heap.size + 1 + 1, 1, none⟩ v0).setCell ⟨w.heap.size + 1, 0, none⟩ v1).setCell ⟨w.heap.size + 1, 1, none⟩ v2)) := fun v0 v1 v2 => by
    have e1 : (((w2.setCell ⟨w.heap.size + 1 + 1, 1, none⟩ v0).setCell ⟨w.heap.size + 1, 0, none⟩ v1).setCell ⟨w.heap.size + 1, 1, none⟩ v2).heap[w.heap.size + 1 + 1 + 1]? = w2.heap[w.heap.size + 1 + 1 + 1]? := by rw [M.setfar (by omega), M.setfar (by omega), M.setfar (by omega)]
    have e2 : (((w2.setCell ⟨w.heap.size + 1 + 1, 1, none⟩ v0).setCell ⟨w.heap.size + 1, 0, none⟩ v1).setCell ⟨w.heap.size + 1, 1, none⟩ v2).heap[w1.heap.size]? = w2.heap[w1.heap.size]? := by rw [M.setfar (by omega), M.setfar (by omega), M.setfar (by omega)]
    have e3 := hb.block (w.heap.size + 1 + 1 + 1) (by rw [SW.out]; omega)
    rw [SW.out] at hat hrow
    exact ⟨AW.out.of_block (e1.trans e3), RW.out.of_block (e1.trans e3), hat.of_block e2, hrow.of_block e2, (((M.sd BW.out hb).setCell (by simp; omega) _).setCell (by simp) _).setCell (by simp) _⟩
  clear hat hrow hb u1 u2 hW
  go_wp2
  refine bodyPost_ret (v := .agg #[.slice (some ⟨w.heap.size + 1 + 1 + 1, 0, none⟩) n1 n1, .slice (some ⟨w1.heap.size, 0, none⟩) n2 n2]) (by simp [results, Tryz.results8, go_sem, p0, p1]) rfl ⟨_, _, rfl, ?_⟩
  obtain ⟨g1, g2, g3, g4, g5⟩ := FIN.out (.slice (some ⟨w1.heap.size, 0, none⟩) n2 n2) (.slice (some ⟨w.heap.size + 1 + 1 + 1, 0, none⟩) n1 n1) (.slice (some ⟨w1.heap.size, 0, none⟩) n2 n2)
  exact ⟨⟨HN1.out, Nat.le_refl _, by unfold maxLen; omega, fun _ => ⟨_, 0, rfl, g1⟩⟩, ⟨HN2.out, Nat.le_refl _, by unfold maxLen; omega, fun _ => ⟨_, 0, rfl, g3⟩⟩, g2, g4, by omega, hz, g5⟩

set_option maxRecDepth 100000 in
set_option maxHeartbeats 800000 in
theorem eqDelta_same (w : World) (a1 a2 b1 b2 : Option Addr) (n1 c1 n2 c2 m1 d1 m2 d2 : Nat) (ss : List ByteArray) (fs : List M.FileD) (h1 : M.Strs w a1 n1 c1 ss) (h2 : M.Files w a2 n2 c2 fs) (k1 : M.Strs w b1 m1 d1 ss) (k2 : M.Files w b2 m2 d2 fs) :
    Calls Tryz.prog 10 #[.agg #[.slice a1 n1 c1, .slice a2 n2 c2], .agg #[.slice b1 m1 d1, .slice b2 m2 d2]] w fun e w' => e = .returned (.bool true) ∧ Below w.heap.size w w' := by
  have HB : Hid (∀ o1 o2, Below w.heap.size w ((w.alloc o1).alloc o2)) := fun o1 o2 => ((Below.refl _ _).alloc (Nat.le_refl _) _).alloc (by simp) _
  have CS : Hid (∀ o1 o2, Calls Tryz.prog 34 #[.slice a1 n1 c1, .slice b1 m1 d1] ((w.alloc o1).alloc o2) fun e w' => e = .returned (.bool true) ∧ Below ((w.alloc o1).alloc o2).heap.size ((w.alloc o1).alloc o2) w') := fun o1 o2 =>
    (eqStringS_any _ a1 b1 n1 c1 m1 d1 ss ss (h1.below (HB.out o1 o2)) (k1.below (HB.out o1 o2))).mono (by rintro e w' ⟨u, rfl, hu, hb⟩; exact ⟨by rw [hu.2 rfl], hb⟩)
  have CF : Hid (∀ W, Below w.heap.size w W → Calls Tryz.prog 35 #[.slice a2 n2 c2, .slice b2 m2 d2] W fun e w' => e = .returned (.bool true) ∧ Below W.heap.size W w') := fun W hW =>
    (eqFileS_any W a2 b2 n2 c2 m2 d2 fs fs (h2.below hW) (k2.below hW)).mono (by rintro e w' ⟨u, rfl, hu, hb⟩; exact ⟨by rw [hu.2 rfl], hb⟩)
  clear h1 h2 k1 k2
  go_enter Tryz.func10, Tryz.ntmps10
  go_wp2_with fail
  refine (CS.out _ _).mono ?_
  rintro e w1 ⟨rfl, hb1⟩
  have x1 : w1.cell? ⟨w.heap.size, 1, none⟩ = some (.slice a2 n2 c2) := by rw [hb1.cell (p := ⟨w.heap.size, 1, none⟩) (by simp; omega), World.cell?_alloc_lt _ _ _ (by simp)]; simp
  have y1 : w1.cell? ⟨w.heap.size + 1, 1, none⟩ = some (.slice b2 m2 d2) := by rw [hb1.cell (p := ⟨w.heap.size + 1, 1, none⟩) (by simp), World.cell?_alloc_at _ _ _ _ (by simp)]; rfl
  have B1 : Hid (Below w.heap.size w w1) := (HB.out _ _).trans (hb1.mono (HB.out _ _).size)
  clear hb1
  go_wp2_with fail
  refine (CF.out _ B1.out).mono ?_
  rintro e w2 ⟨rfl, hb2⟩
  have B2 : Hid (Below w.heap.size w w2) := M.sd B1.out hb2
  clear hb2
  go_wp2
  go_ret
  exact ⟨rfl, B2.out⟩
end Go.Proofs.YtephjmlcbpfnaaaGreatDoor
