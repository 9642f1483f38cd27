/-
  What eqTapeOut, markTapeOut and heldTapeOut of the laws do.
-/
import Derived.Test.YtappficbjjkmiaaPart6
import Derived.Test.YtappficbjjkmiaaTapeEq
import Derived.Test.YtappficbjjkmiaaPart8
namespace Go.Proofs.Ytappficbjjkmiaa
open Go.RowKit

set_option maxRecDepth 100000 in
set_option maxHeartbeats 1600000 in
theorem eqTapeOut_same (w : World) (a b a' b' : Option Addr) (n c d m e f e' f' : Nat) (ts : List M.TapeD) (ps : List M.PartD) (s : ByteArray) (z : Int) (h : M.Tps w a n c ts) (h' : M.Tps w b n d ts) (k : M.Pts w a' m e ps) (k' : M.Pts w b' e' f ps) (hf : f' = f) :
    Calls Try.prog 29 #[.agg #[.slice a n c, .slice a' m e, .string s, .int .i64 z], .agg #[.slice b n d, .slice b' e' f', .string s, .int .i64 z]] w fun r w' => r = .returned (.bool true) ∧ Below w.heap.size w w' := by
  subst hf
  have HB : Hid (∀ o1 o2, Below w.heap.size w ((w.alloc o1).alloc o2)) := fun o1 o2 => ((Below.refl _ _).alloc (Nat.le_refl _) _).alloc (by simp) _
  have CT : Hid (∀ W, Below w.heap.size w W → Calls Try.prog 27 #[.slice a n c, .slice b n d] W fun r w' => r = .returned (.bool true) ∧ Below W.heap.size W w') := fun W hW => eqTapeS_same W a b n c n d ts (h.below hW) (h'.below hW)
  have CP : Hid (∀ W, Below w.heap.size w W → Calls Try.prog 37 #[.slice a' m e, .slice b' e' f'] W fun r w' => r = .returned (.bool true) ∧ Below W.heap.size W w') := fun W hW => eqPartS_same W a' b' m e e' f' ps (k.below hW) (k'.below hW)
  have ds : (s.toList != s.toList) = false := by simp
  have ds' : (s.toList == s.toList) = true := by simp
  clear h h' k k'
  go_enter Try.func29, Try.ntmps29
  go_wp2_with fail
  refine (CT.out _ (HB.out _ _)).mono ?_
  rintro r w1 ⟨rfl, hb⟩
  obtain ⟨t0, t1⟩ := M.thr2 w (.cells #[.slice a n c, .slice a' m e, .string s, .int .i64 z] 29) (.cells #[.slice b n d, .slice b' e' f', .string s, .int .i64 z] 29)
  have u0 := (hb.block w.heap.size (by simp; omega)).trans t0
  have u1 := (hb.block (w.heap.size + 1) (by simp)).trans t1
  have U0 := M.hl u0
  have U1 := M.hl u1
  have B1 := M.hl (M.sl (HB.out _ _) hb)
  have x1 := M.bk_cell u0 1 (.slice a' m e) rfl
  have y1 := M.bk_cell u1 1 (.slice b' e' f') rfl
  clear hb t0 t1 u0 u1
  go_wp2_with fail
  refine (CP.out _ B1.out).mono ?_
  rintro r w2 ⟨rfl, hb⟩
  have u0 := (hb.block w.heap.size (Array.getElem?_eq_some_iff.1 U0.out).1).trans U0.out
  have u1 := (hb.block (w.heap.size + 1) (Array.getElem?_eq_some_iff.1 U1.out).1).trans U1.out
  have B2 := M.hl (M.sl B1.out hb)
  clear hb x1 y1
  have x2 := M.bk_cell u0 2 (.string s) rfl
  have x3 := M.bk_cell u0 3 (.int .i64 z) rfl
  have y2 := M.bk_cell u1 2 (.string s) rfl
  have y3 := M.bk_cell u1 3 (.int .i64 z) rfl
  clear u0 u1
  go_wp2
  go_ret
  exact ⟨rfl, B2.out⟩

set_option maxRecDepth 100000 in
set_option maxHeartbeats 1600000 in
theorem markTapeOut_own (w : World) (lo hi : Nat) (v u : Value) (ps : List (M.TapeD × Value)) (qs : List M.PartD) (s : ByteArray) (z : Int) (h : M.OwnT w lo hi v ps) (k : M.OwnPt w lo u qs) (hu : ∀ g, u.ownBlock = some g → g < hi) (hi2 : hi ≤ w.heap.size) (hT : M.tend ps 1 ≤ 20000000) (hl : qs.length ≤ 1048576) :
    Calls Try.prog 33 #[.agg #[v, u, .string s, .int .i64 z], .int .i64 1] w fun r w' => r = .returned (.int .i64 ((M.tend ps 1 + 4 * qs.length : Nat) : Int)) ∧ M.OwnT w' lo hi v (M.tmarks ps 1) ∧ M.OwnPt w' lo u (M.ptmarks qs.length (M.tend ps 1)) ∧ M.Mid lo hi w w' := by
  obtain ⟨va, vc, rfl⟩ := h.len
  obtain ⟨ua, uc, rfl⟩ := k.len
  have A1 : Hid (∀ o, Below w.heap.size w (w.alloc o)) := fun o => (Below.refl _ _).alloc (Nat.le_refl _) _
  have CT : Hid (∀ o, Calls Try.prog 31 #[.slice va ps.length vc, .int .i64 1] (w.alloc o) fun e w' => e = .returned (.int .i64 ((M.tend ps 1 : Nat) : Int)) ∧ M.OwnT w' lo hi (.slice va ps.length vc) (M.tmarks ps 1) ∧ M.Mid lo hi (w.alloc o) w' ∧ M.Only (.slice va ps.length vc) ps (w.alloc o) w') := fun o => markTapeS_own2 (w.alloc o) lo hi _ ps 1 (h.below (A1.out o)) (Nat.le_refl _) (by omega)
  have hk1 : 1 ≤ M.tend ps 1 := by rw [M.tend_eq]; omega
  have CP : Hid (∀ W, M.OwnPt W lo (.slice ua qs.length uc) qs → Calls Try.prog 38 #[.slice ua qs.length uc, .int .i64 ((M.tend ps 1 : Nat) : Int)] W fun e w' => e = .returned (.int .i64 ((M.tend ps 1 + 4 * qs.length : Nat) : Int)) ∧ M.OwnPt w' lo (.slice ua qs.length uc) (M.ptmarks qs.length (M.tend ps 1)) ∧ W.grownBy w' (Value.slice ua qs.length uc).ownBlock) := fun W hW => markPartS_own W lo _ qs (M.tend ps 1) hW hl hk1 (by omega)
  have KK := M.hl k
  have HU := M.hl hu
  have SEP : Hid (∀ (W : World) (p : M.TapeD × Value) (g : Nat), M.OwnPt W lo (.slice ua qs.length uc) qs → M.OwnS W lo p.2 p.1.ss → (Value.slice ua qs.length uc).ownBlock = some g → p.2.ownBlock ≠ some g) := fun W p g hP hS hg e2 => by
    obtain ⟨-, h0 | ⟨g', cap, cur, e, -, hh, -⟩⟩ := hP
    · rw [h0.1] at hg; cases hg
    · rw [e] at hg
      have hgg := Option.some.inj hg
      simp only at hgg
      subst hgg
      obtain ⟨-, h1 | ⟨g2, cap2, cur2, e3, -, hh2, -⟩⟩ := hS
      · rw [h1.1] at e2; cases e2
      · rw [e3] at e2
        have := Option.some.inj e2
        simp only at this
        rw [this, hh] at hh2
        have := Option.some.inj hh2
        simp at this
  have SEPT : Hid (∀ (W : World) (rs : List (M.TapeD × Value)) (g : Nat), M.OwnPt W lo (.slice ua qs.length uc) qs → W.ownsRow lo 36 4 (.slice va ps.length vc) rs.length (M.cellsT rs) → (Value.slice ua qs.length uc).ownBlock = some g → (Value.slice va ps.length vc).ownBlock ≠ some g) := fun W rs g hP hT hg e2 => by
    obtain ⟨-, h0 | ⟨g', cap, cur, e, -, hh, -⟩⟩ := hP
    · rw [h0.1] at hg; cases hg
    · rw [e] at hg
      have hgg := Option.some.inj hg
      simp only at hgg
      subst hgg
      obtain ⟨-, h1 | ⟨g2, cap2, cur2, e3, -, hh2, -⟩⟩ := hT
      · rw [h1.1] at e2; cases e2
      · rw [e3] at e2
        have := Option.some.inj e2
        simp only at this
        rw [this, hh] at hh2
        have := Option.some.inj hh2
        simp at this
  have HT0 := M.hl h
  clear h k hu
  obtain ⟨N, hN⟩ : ∃ N, N = M.tend ps 1 := ⟨_, rfl⟩
  obtain ⟨N2, hN2⟩ : ∃ N2, N2 = M.tend ps 1 + 4 * qs.length := ⟨_, rfl⟩
  rw [← hN2, ← hN] at CP
  rw [← hN2, ← hN]
  rw [← hN] at CT hT
  have hN2b : N2 ≤ 40000000 := by omega
  clear hN hN2 hk1
  go_enter Try.func33, Try.ntmps33
  go_wp2_with fail
  refine (CT.out _).mono ?_
  rintro e w1 ⟨rfl, hO, hm, hy⟩
  have e0 : (w.alloc (.cells #[.slice va ps.length vc, .slice ua qs.length uc, .string s, .int .i64 z] 29)).heap[w.heap.size]? = some (.cells #[.slice va ps.length vc, .slice ua qs.length uc, .string s, .int .i64 z] 29 (0, 0)) := heap_alloc_new _ _
  have e1 := (hm.block w.heap.size (by simp) (.inr hi2)).trans e0
  have O1 := M.hl hO
  have M1 : Hid (M.Mid lo hi w w1) := (M.Mid.of_below (A1.out _)).trans hm
  have KP : Hid (M.OwnPt w1 lo (.slice ua qs.length uc) qs) := by
    have k1 := KK.out.below (A1.out (.cells #[.slice va ps.length vc, .slice ua qs.length uc, .string s, .int .i64 z] 29))
    have t1 := HT0.out.below (A1.out (.cells #[.slice va ps.length vc, .slice ua qs.length uc, .string s, .int .i64 z] 29))
    obtain ⟨hl0, h0 | ⟨g, cap, cur, hv, hb, hh, hr⟩⟩ := k1
    · exact ⟨hl0, .inl h0⟩
    · have hg : (Value.slice ua qs.length uc).ownBlock = some g := by rw [hv]; rfl
      have k2 := KK.out.below (A1.out (.cells #[.slice va ps.length vc, .slice ua qs.length uc, .string s, .int .i64 z] 29))
      exact ⟨hl0, .inr ⟨g, cap, cur, hv, hb, (hy g (Array.getElem?_eq_some_iff.1 hh).1 (SEPT.out _ ps g k2 t1.row hg) (fun p hp => SEP.out _ p g k2 (t1.each p hp).1 hg)).trans hh, hr⟩⟩
  have c1 := M.bk_cell e1 1 (.slice ua qs.length uc) rfl
  clear hO hm hy e0 e1
  go_wp2_with fail
  refine (CP.out w1 KP.out).mono ?_
  rintro e w2 ⟨rfl, hP, hg⟩
  have P2 := M.hl hP
  have M2 : Hid (M.Mid lo hi w w2) := M1.out.trans (M.Mid.of_grown hg (fun g hg' => ⟨(World.ownsRow.lt KP.out g hg').1, HU.out g hg'⟩))
  have O2 : Hid (M.OwnT w2 lo hi (.slice va ps.length vc) (M.tmarks ps 1)) := by
    have o := O1.out
    refine ⟨?_, o.top, fun p hp => ⟨(o.each p hp).1.but hg (fun j hj e => SEP.out w1 p j KP.out (o.each p hp).1 e hj), (o.each p hp).2⟩, o.apart⟩
    obtain ⟨hl0, h0 | ⟨g, cap, cur, hv, hb, hh, hr⟩⟩ := o.row
    · exact ⟨hl0, .inl h0⟩
    · refine ⟨hl0, .inr ⟨g, cap, cur, hv, hb, (hg.block g (Array.getElem?_eq_some_iff.1 hh).1 (fun e => ?_)).trans hh, hr⟩⟩
      exact SEPT.out w1 (M.tmarks ps 1) g KP.out o.row e.symm (by rw [hv]; rfl)
  clear hP hg c1
  go_wp2
  go_ret
  exact ⟨rfl, O2.out, P2.out, M2.out⟩

set_option maxRecDepth 100000 in
set_option maxHeartbeats 1600000 in
theorem heldTapeOut_own (w : World) (lo hi : Nat) (v u : Value) (ps : List (M.TapeD × Value)) (m : Nat) (s : ByteArray) (z : Int) (h : M.OwnT w lo hi v (M.tmarks ps 1)) (k : M.OwnPt w lo u (M.ptmarks m (M.tend ps 1))) (hT : M.tend ps 1 ≤ 20000000) (hl : m ≤ 1048576) :
    Calls Try.prog 34 #[.agg #[v, u, .string s, .int .i64 z], .int .i64 1] w fun r w' => r = .returned (.int .i64 ((M.tend ps 1 + 4 * m : Nat) : Int)) ∧ Below w.heap.size w w' := by
  have A1 : Hid (∀ o, Below w.heap.size w (w.alloc o)) := fun o => (Below.refl _ _).alloc (Nat.le_refl _) _
  have hk1 : 1 ≤ M.tend ps 1 := by rw [M.tend_eq]; omega
  have CT : Hid (∀ o, Calls Try.prog 40 #[v, .int .i64 1] (w.alloc o) fun e w' => e = .returned (.int .i64 ((M.tend ps 1 : Nat) : Int)) ∧ Below (w.alloc o).heap.size (w.alloc o) w') := fun o => heldTapeS_own (w.alloc o) lo hi v ps 1 (h.below (A1.out o)) (Nat.le_refl _) (by omega)
  have CP : Hid (∀ W, Below w.heap.size w W → Calls Try.prog 70 #[u, .int .i64 ((M.tend ps 1 : Nat) : Int)] W fun e w' => e = .returned (.int .i64 ((M.tend ps 1 + 4 * m : Nat) : Int)) ∧ W = w') := fun W hW => heldPartS_own W lo u m (M.tend ps 1) (k.below hW) hl hk1 (by omega)
  obtain ⟨va, vc, ev⟩ := h.len
  obtain ⟨ua, uc, eu⟩ := k.len
  rw [M.tmarks_len] at ev
  rw [M.ptmarks_len] at eu
  subst ev eu
  clear h k
  obtain ⟨N, hN⟩ : ∃ N, N = M.tend ps 1 := ⟨_, rfl⟩
  obtain ⟨N2, hN2⟩ : ∃ N2, N2 = M.tend ps 1 + 4 * m := ⟨_, rfl⟩
  rw [← hN2, ← hN] at CP
  rw [← hN2]
  rw [← hN] at CT hT
  have hN2b : N2 ≤ 40000000 := by omega
  have d1 : decide ((N : Int) < 0) = false := decide_eq_false (by omega)
  have d2 : decide ((N2 : Int) < 0) = false := decide_eq_false (by omega)
  clear hN hN2 hk1
  go_enter Try.func34, Try.ntmps34
  go_wp2_with fail
  refine (CT.out _).mono ?_
  rintro e w1 ⟨rfl, hb⟩
  have c1 := M.bxd hb 1 (.slice ua m uc) rfl
  have B1 := M.hl (M.bxd_below hb)
  clear hb
  go_wp2_with fail
  refine (CP.out w1 B1.out).mono ?_
  rintro e w2 ⟨rfl, rfl⟩
  go_wp2
  go_ret
  exact ⟨rfl, B1.out⟩
end Go.Proofs.Ytappficbjjkmiaa
