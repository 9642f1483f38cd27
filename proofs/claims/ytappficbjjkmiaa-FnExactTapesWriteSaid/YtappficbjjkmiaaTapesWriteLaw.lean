/-
  TapesWrite of the program answers as that of the specification, at every row of tapes, every row of numbers and every text; its answer owns its memory.
-/
import Derived.Test.YtappficbjjkmiaaPart12
import Derived.Test.YtappficbjjkmiaaSTWriteO
import Derived.Test.YtappficbjjkmiaaTapeOutSW
import Derived.Test.YtappficbjjkmiaaPart13
namespace Go.Proofs.Ytappficbjjkmiaa
open Go.RowKit

theorem M.tln_few {us : List M.TapeD} (h : ∀ t ∈ us, t.ss.length ≤ 300) : M.tln us ≤ 300 * us.length := by
  induction us with
  | nil => exact Nat.le_refl _
  | cons t us ih =>
    have h1 := ih (fun u hu => h u (List.mem_cons_of_mem _ hu))
    have h2 := h t (List.mem_cons_self ..)
    have e : M.tln (t :: us) = t.ss.length + M.tln us := by simp [M.tln]
    rw [e, List.length_cons]
    omega
theorem M.tw_few (ok : Bool) (ts : List M.TapeD) (zs : List Int) (s : ByteArray) : (M.tw ok ts zs s).1.length ≤ 8 ∧ M.tln (M.tw ok ts zs s).1 ≤ 2400 ∧ (M.tw ok ts zs s).2.1.length ≤ 400 := by
  have hz : ([] : List M.TapeD).length ≤ 8 ∧ M.tln [] ≤ 2400 ∧ ([] : List M.PartD).length ≤ 400 := ⟨Nat.zero_le _, Nat.zero_le _, Nat.zero_le _⟩
  unfold M.tw
  split
  · exact hz
  next h =>
    split
    · next h2 =>
      split
      · next h3 =>
        have hr : M.tapesR ts = true := by rw [Bool.and_eq_true] at h2; exact h2.1
        obtain ⟨⟨-, h8⟩, hall⟩ := M.tapesR_iff.1 hr
        have hlen := M.wr_len zs ⟨ts, [], M.tbl s ((s.size + 63) / 64)⟩
        have hrt := (M.wr_right zs (x := ⟨ts, [], M.tbl s ((s.size + 63) / 64)⟩) hall M.tbl_size).1
        have hps := (M.wr_ps zs ⟨ts, [], M.tbl s ((s.size + 63) / 64)⟩).1
        have hfew := M.tln_few (us := (M.wr ⟨ts, [], M.tbl s ((s.size + 63) / 64)⟩ zs).ts) (fun t ht => by
          obtain ⟨-, ⟨-, r1⟩, r2, -⟩ := M.tapeR_iff.1 (hrt t ht)
          omega)
        have hx : (⟨ts, [], M.tbl s ((s.size + 63) / 64)⟩ : M.WrS).ps.length = 0 := rfl
        have hy : (⟨ts, [], M.tbl s ((s.size + 63) / 64)⟩ : M.WrS).ts.length = ts.length := rfl
        refine ⟨?_, ?_, ?_⟩
        · show (M.wr ⟨ts, [], M.tbl s ((s.size + 63) / 64)⟩ zs).ts.length ≤ 8
          omega
        · show M.tln (M.wr ⟨ts, [], M.tbl s ((s.size + 63) / 64)⟩ zs).ts ≤ 2400
          omega
        · show (M.wr ⟨ts, [], M.tbl s ((s.size + 63) / 64)⟩ zs).ps.length ≤ 400
          omega
      · exact hz
    · exact hz

/-- Two answers of a write, in rows that lie one behind the other, and the boxes that they stand in. -/
structure M.TwT (w W : World) (l3 h3 l5 h5 D G : Nat) (v3 u3 v5 u5 : Value) (qs3 qs5 : List (M.TapeD × Value)) (ps3 ps5 : List M.PartD) (z : Int) : Prop where
  o3 : M.OwnT W l3 h3 v3 qs3
  p3 : M.OwnPt W l3 u3 ps3
  t3 : ∀ g, u3.ownBlock = some g → g < h3
  o5 : M.OwnT W l5 h5 v5 qs5
  p5 : M.OwnPt W l5 u5 ps5
  t5 : ∀ g, u5.ownBlock = some g → g < h5
  d : W.heap[D]? = some (.cells #[v3, u3, .string ⟨#[]⟩, .int .i64 z] 29 (0, 0))
  g : W.heap[G]? = some (.cells #[v5, u5, .string ⟨#[]⟩, .int .i64 z] 29 (0, 0))
  b : Below w.heap.size w W
  hs : h5 ≤ W.heap.size
theorem M.TwT.below {w W W' : World} {l3 h3 l5 h5 D G : Nat} {v3 u3 v5 u5 : Value} {qs3 qs5 : List (M.TapeD × Value)} {ps3 ps5 : List M.PartD} {z : Int} (h : M.TwT w W l3 h3 l5 h5 D G v3 u3 v5 u5 qs3 qs5 ps3 ps5 z) (hb : Below W.heap.size W W') : M.TwT w W' l3 h3 l5 h5 D G v3 u3 v5 u5 qs3 qs5 ps3 ps5 z :=
  ⟨h.o3.below hb, h.p3.below hb, h.t3, h.o5.below hb, h.p5.below hb, h.t5, M.keepO h.d hb, M.keepO h.g hb, M.sl h.b hb, Nat.le_trans h.hs hb.size⟩
theorem M.keepMid {lo hi : Nat} {W W' : World} {b : Nat} {o : Obj} (h : W.heap[b]? = some o) (hm : M.Mid lo hi W W') (ho : b < lo ∨ hi ≤ b) : W'.heap[b]? = some o := (hm.block b (Array.getElem?_eq_some_iff.1 h).1 ho).trans h
/-- A change between the two. -/
theorem M.TwT.mid {w W W' : World} {l3 h3 l5 h5 D G lo hi : Nat} {v3 u3 v5 u5 : Value} {qs3 qs5 : List (M.TapeD × Value)} {ps3 ps5 : List M.PartD} {z : Int} (h : M.TwT w W l3 h3 l5 h5 D G v3 u3 v5 u5 qs3 qs5 ps3 ps5 z) (hm : M.Mid lo hi W W') (h1 : h3 ≤ lo) (h2 : D < lo) (h4 : hi ≤ l5) (h6 : hi ≤ G) (h7 : w.heap.size ≤ lo) (h8 : lo ≤ W.heap.size) : M.TwT w W' l3 h3 l5 h5 D G v3 u3 v5 u5 qs3 qs5 ps3 ps5 z :=
  ⟨h.o3.mid hm (.inl h1), h.p3.mid hm (fun g e => .inl (Nat.lt_of_lt_of_le (h.t3 g e) h1)), h.t3, h.o5.mid hm (.inr h4), h.p5.mid hm (fun g e => .inr (Nat.le_trans h4 (World.ownsRow.lt h.p5 g e).1)), h.t5, M.keepMid h.d hm (.inl h2), M.keepMid h.g hm (.inr h6), M.midB h.b hm h7 h8, Nat.le_trans h.hs hm.size⟩
/-- The second is marked. -/
theorem M.TwT.mark {w W W' : World} {l3 h3 l5 h5 D G : Nat} {v3 u3 v5 u5 : Value} {qs3 qs5 rs5 : List (M.TapeD × Value)} {ps3 ps5 ms5 : List M.PartD} {z : Int} (h : M.TwT w W l3 h3 l5 h5 D G v3 u3 v5 u5 qs3 qs5 ps3 ps5 z) (hm : M.Mid l5 h5 W W') (ho : M.OwnT W' l5 h5 v5 rs5) (hp : M.OwnPt W' l5 u5 ms5) (h1 : h3 ≤ l5) (h2 : D < l5) (h6 : h5 ≤ G) (h7 : w.heap.size ≤ l5) (h8 : l5 ≤ W.heap.size) : M.TwT w W' l3 h3 l5 h5 D G v3 u3 v5 u5 qs3 rs5 ps3 ms5 z :=
  ⟨h.o3.mid hm (.inl h1), h.p3.mid hm (fun g e => .inl (Nat.lt_of_lt_of_le (h.t3 g e) h1)), h.t3, ho, hp, h.t5, M.keepMid h.d hm (.inl h2), M.keepMid h.g hm (.inr h6), M.midB h.b hm h7 h8, Nat.le_trans h.hs hm.size⟩
theorem M.quad {W : World} {H : Nat} {v0 v1 v2 v3 : Value} {T : TypeId} (h : W.heap[H]? = some (.cells #[v0, v1, v2, v3] T (0, 0))) : W.cell? ⟨H, 0, none⟩ = some v0 ∧ W.cell? ⟨H, 1, none⟩ = some v1 ∧ W.cell? ⟨H, 2, none⟩ = some v2 ∧ W.cell? ⟨H, 3, none⟩ = some v3 :=
  ⟨M.bk_cell h 0 _ rfl, M.bk_cell h 1 _ rfl, M.bk_cell h 2 _ rfl, M.bk_cell h 3 _ rfl⟩

set_option maxRecDepth 100000 in
set_option maxHeartbeats 3200000 in
theorem fnExactTapesWrite_walk (a0 : Option Addr) (n c : Nat) (ts : List M.TapeD) (a1 : Option Addr) (nk ck : Nat) (ks : List Int) (s : ByteArray) (w : World) (h : M.Tps w a0 n c ts) (hok : ∀ t ∈ ts, M.tok t) (hk : M.NV w a1 nk ks) (hkm : nk ≤ maxLen) (hsm : s.size ≤ maxLen) :
    Calls Try.prog 6 #[.slice a0 n c, .slice a1 nk ck, .string s] w fun e w' => e = .returned (.bool true) ∧ Below w.heap.size w w' := by
  have HS := M.hl h
  have HO := M.hl hok
  have HK := M.hl hk
  have HN : Hid (n = ts.length) := h.1
  have HNK : Hid (nk = ks.length) := hk.1
  have hkm2 : nk ≤ 9223372036854775807 := by unfold maxLen at hkm; omega
  have hsm2 : s.size ≤ 9223372036854775807 := by unfold maxLen at hsm; omega
  clear h hok hk hkm hsm
  by_cases hbig : 1048576 < nk
  · have d1 : decide (1048576 < (nk : Int)) = true := decide_eq_true (by omega)
    go_enter Try.func6, Try.ntmps6
    go_wp2
    go_ret
    exact ⟨rfl, Below.refl _ _⟩
  have hkl : nk ≤ 1048576 := by omega
  by_cases hbig2 : 1048576 < s.size
  · have d2 : decide (1048576 < (s.size : Int)) = true := decide_eq_true (by omega)
    go_enter Try.func6, Try.ntmps6
    go_wp2
    go_ret
    exact ⟨rfl, Below.refl _ _⟩
  have hsl : s.size ≤ 1048576 := by omega
  have HKL := M.hl hkl
  have HSL := M.hl hsl
  clear hbig hbig2
  go_enter Try.func6, Try.ntmps6
  go_wp2_with fail
  refine (szTapeS_any _ a0 n c ts HS.out HO.out).mono ?_
  rintro e w1 ⟨v, rfl, hv1, hv2, hb⟩
  have HV2 := M.hl hv2
  have B1 := M.hl hb
  clear hv2 hb
  by_cases hneg : v < 0
  · go_wp2
    go_ret
    exact ⟨rfl, B1.out⟩
  have HL : Hid (n + M.tln ts ≤ 1048576) := by have := (HV2.out (by omega)).1; show _ ≤ _; omega
  have HSM : Hid (∀ t ∈ ts, ∀ s ∈ t.ss, s.size ≤ 100000000) := fun t ht s hs => by have := (HV2.out (by omega)).2 t ht s hs; omega
  clear HV2
  obtain ⟨ok, hok⟩ : ∃ ok : Bool, (ok = true ↔ M.useP n ks) := by
    rcases Classical.em (M.useP n ks) with h | h
    · exact ⟨true, fun _ => h, fun _ => rfl⟩
    · exact ⟨false, fun e => (by cases e), fun e => absurd e h⟩
  obtain ⟨us, hus⟩ : ∃ us, us = (M.tw ok ts ks s).1 := ⟨_, rfl⟩
  obtain ⟨pz, hpz⟩ : ∃ pz, pz = (M.tw ok ts ks s).2.1 := ⟨_, rfl⟩
  obtain ⟨z, hz⟩ : ∃ z, z = (M.tw ok ts ks s).2.2 := ⟨_, rfl⟩
  have hfew := M.tw_few ok ts ks s
  rw [← hus, ← hpz] at hfew
  have CSC : Hid (∀ (W : World) (a b : Option Addr), M.Tps W a n n ts → M.NV W b nk ks → Calls Try.prog 11 #[.slice a n n, .slice b nk nk, .string s] W fun e w' => ∃ (v u : Value) (qs : List (M.TapeD × Value)), e = .returned (.agg #[v, u, .string ⟨#[]⟩, .int .i64 z]) ∧ qs.map Prod.fst = us ∧ M.OwnT w' W.heap.size w'.heap.size v qs ∧ M.OwnPt w' W.heap.size u pz ∧ Below W.heap.size W w') := fun W a b hW hN => by rw [hz, hus, hpz]; exact sTWrite_any W a n n ts b nk nk ks s ok hW HO.out HL.out hN (Nat.le_refl _) hsl hok
  have CIC : Hid (∀ (W : World) (a b : Option Addr), M.Tps W a n n ts → M.NV W b nk ks → Calls Try.prog 10 #[.slice a n n, .slice b nk nk, .string s] W fun e w' => ∃ (v u : Value) (qs : List (M.TapeD × Value)), e = .returned (.agg #[v, u, .string ⟨#[]⟩, .int .i64 z]) ∧ qs.map Prod.fst = us ∧ M.OwnT w' W.heap.size w'.heap.size v qs ∧ M.OwnPt w' W.heap.size u pz ∧ Below W.heap.size W w') := fun W a b hW hN => by rw [hz, hus, hpz]; exact iTWrite_any W a n n ts b nk nk ks s ok hW HO.out HSM.out HL.out hN (Nat.le_refl _) hsl hok
  have HFEW := M.hl hfew
  clear hz hus hpz hok hfew HO HSM
  clear ok
  obtain ⟨L, hL⟩ : ∃ L, us.length = L := ⟨_, rfl⟩
  have HLL := M.hl hL
  obtain ⟨K, hK⟩ : ∃ K, pz.length = K := ⟨_, rfl⟩
  have HKK := M.hl hK
  rw [hL, hK] at HFEW
  clear hL hK
  go_wp2_with fail
  refine (toTapeS_any w1 a0 n c ts (HS.out.below B1.out) HL.out).mono ?_
  rintro e w2 ⟨p1, ps, rfl, hp, hO, hb⟩
  have S2 := M.hl (hO.at_slice hp)
  have B2 := M.hl (M.sl B1.out hb)
  clear hp hO hb B1
  go_wp2_with fail
  refine (toInt64S_any w2 a1 nk ck ks (M.nvS HK.out B2.out) HKL.out).mono ?_
  rintro e w2' ⟨k2, rfl, hN, -, hb⟩
  have I2 := M.hl (hN.nvn HNK.out)
  have S2 := M.hl (S2.out.below hb)
  have B2 := M.hl (M.sl B2.out hb)
  clear hN hb
  go_wp2_with fail
  refine (CSC.out w2' _ _ S2.out I2.out).mono ?_
  rintro e w3 ⟨v3, u3, qs3, rfl, hq3, hO, hP, hb⟩
  have A3 : Hid (∀ o, Below w3.heap.size w3 (w3.alloc o)) := fun o => (Below.refl _ _).alloc (Nat.le_refl _) _
  obtain ⟨a3, c3, rfl⟩ := hO.lenN (n := L) (by rw [← HLL.out, ← hq3, List.length_map])
  obtain ⟨b3, e3, rfl⟩ : ∃ b e, u3 = .slice b K e := by rw [← HKK.out]; exact hP.len
  have O3 := M.hl (fun o => hO.below (A3.out o))
  have P3 := M.hl (fun o => hP.below (A3.out o))
  have T3 : Hid (∀ g, (Value.slice b3 K e3).ownBlock = some g → g < w3.heap.size) := fun g e => (World.ownsRow.lt hP g e).2
  have Q3 := M.hl hq3
  have B3 := M.hl (fun o => M.sl (M.sl B2.out hb) (A3.out o))
  have ZB3 : Hid (w.heap.size ≤ w3.heap.size) := (M.sl B2.out hb).size
  clear hq3 hO hP hb S2 I2 B2
  go_wp2_with fail
  refine (toTapeS_any _ a0 n c ts (HS.out.below (B3.out _)) HL.out).mono ?_
  rintro e w4 ⟨q1, ps4, rfl, hp, hO, hb⟩
  have Z34 : Hid (w3.heap.size + 1 ≤ w4.heap.size) := by show _ ≤ _; have := hb.size; simpa using this
  have S4 := M.hl (hO.at_slice hp)
  have O4 := M.hl (hO.widen (lo' := w3.heap.size + 1) (by simp) (Nat.le_refl _))
  have P4 := M.hl hp
  have D4 := M.hl (M.keepO (heap_alloc_new w3 (.cells #[.slice a3 L c3, .slice b3 K e3, .string ⟨#[]⟩, .int .i64 z] 29)) hb)
  have B4 := M.hl (M.sl (B3.out _) hb)
  have O34 := M.hl ((O3.out _).below hb)
  have P34 := M.hl ((P3.out _).below hb)
  clear hp hO hb O3 P3 B3
  go_wp2_with fail
  refine (toInt64S_any w4 a1 nk ck ks (M.nvS HK.out B4.out) HKL.out).mono ?_
  rintro e wj ⟨kj, rfl, hN, hkj, hb⟩
  have KJ : Hid (w4.heap.size ≤ kj ∧ kj < wj.heap.size) := ⟨hkj, hN.lt⟩
  have NJ := M.hl hN
  have S4 := M.hl (S4.out.below hb)
  have O4 := M.hl (O4.out.below hb)
  have D4 := M.hl (M.keepO D4.out hb)
  have B4 := M.hl (M.sl B4.out hb)
  have O34 := M.hl (O34.out.below hb)
  have P34 := M.hl (P34.out.below hb)
  clear hN hkj hb
  go_wp2_with fail
  refine (CIC.out wj _ _ S4.out (NJ.out.nvn HNK.out)).mono ?_
  rintro e w5 ⟨v5, u5, qs5, rfl, hq5, hO, hP, hb⟩
  have A5 : Hid (∀ o, Below w5.heap.size w5 (w5.alloc o)) := fun o => (Below.refl _ _).alloc (Nat.le_refl _) _
  have hl5 : qs5.length = L := by rw [← HLL.out, ← hq5, List.length_map]
  obtain ⟨a5, c5, rfl⟩ := hO.lenN hl5
  obtain ⟨b5, e5, rfl⟩ : ∃ b e, u5 = .slice b K e := by rw [← HKK.out]; exact hP.len
  have Q5 := M.hl hq5
  have HL5 := M.hl hl5
  have Z45 := M.hl hb.size
  obtain ⟨W5, hW5⟩ : ∃ W5, W5 = w5.alloc (.cells #[.slice a5 L c5, .slice b5 K e5, .string ⟨#[]⟩, .int .i64 z] 29) := ⟨_, rfl⟩
  have hb5 : Below wj.heap.size wj W5 := by rw [hW5]; exact M.sl hb (A5.out _)
  have Z5 : Hid (w5.heap.size ≤ W5.heap.size) := by rw [hW5]; show _ ≤ _; simp
  have T5 : M.TwT w W5 w2'.heap.size w3.heap.size wj.heap.size w5.heap.size w3.heap.size w5.heap.size (.slice a3 L c3) (.slice b3 K e3) (.slice a5 L c5) (.slice b5 K e5) qs3 qs5 pz pz z :=
    ⟨O34.out.below hb5, P34.out.below hb5, T3.out, by rw [hW5]; exact hO.below (A5.out _), by rw [hW5]; exact hP.below (A5.out _), fun g e => (World.ownsRow.lt hP g e).2, M.keepO D4.out hb5, by rw [hW5]; exact heap_alloc_new _ _, M.sl B4.out hb5, Z5.out⟩
  have T5 := M.hl T5
  have X5 := M.hl (O4.out.below hb5)
  have N5 := M.hl (NJ.out.below hb5)
  have D5a : Hid (∀ o, (w5.alloc o).heap[w3.heap.size]? = some (.cells #[.slice a3 L c3, .slice b3 K e3, .string ⟨#[]⟩, .int .i64 z] 29 (0, 0))) := fun o => M.keepO D4.out (M.sl hb (A5.out o))
  have HW5 := M.hl hW5
  have EQ : Hid (∀ W qs ps, M.TwT w W w2'.heap.size w3.heap.size wj.heap.size w5.heap.size w3.heap.size w5.heap.size (.slice a3 L c3) (.slice b3 K e3) (.slice a5 L c5) (.slice b5 K e5) qs3 qs ps pz z → qs.map Prod.fst = us → ps = pz → Calls Try.prog 29 #[.agg #[.slice a5 L c5, .slice b5 K e5, .string ⟨#[]⟩, .int .i64 z], .agg #[.slice a3 L c3, .slice b3 K e3, .string ⟨#[]⟩, .int .i64 z]] W fun e w' => e = .returned (.bool true) ∧ Below W.heap.size W w') := fun W qs ps hT hq hp => by
    subst hp
    exact eqTapeOut_same W a5 a3 b5 b3 L c5 c3 K e5 e3 K e3 us ps ⟨#[]⟩ z (hT.o5.at_slice hq) (hT.o3.at_slice Q3.out) hT.p5.at_slice hT.p3.at_slice rfl
  clear hq5 hO hP hb hb5 hW5 O34 P34 O4 D4 B4 S4 hl5 NJ T3
  have d0 : ∀ o, (w5.alloc o).cell? ⟨w3.heap.size, 0, none⟩ = some (.slice a3 L c3) := fun o => M.bk_cell (D5a.out o) 0 _ rfl
  have d1 : ∀ o, (w5.alloc o).cell? ⟨w3.heap.size, 1, none⟩ = some (.slice b3 K e3) := fun o => M.bk_cell (D5a.out o) 1 _ rfl
  have d2 : ∀ o, (w5.alloc o).cell? ⟨w3.heap.size, 2, none⟩ = some (.string ⟨#[]⟩) := fun o => M.bk_cell (D5a.out o) 2 _ rfl
  have d3 : ∀ o, (w5.alloc o).cell? ⟨w3.heap.size, 3, none⟩ = some (.int .i64 z) := fun o => M.bk_cell (D5a.out o) 3 _ rfl
  go_wp2_with fail
  rw [← HW5.out]
  refine (EQ.out W5 _ _ T5.out Q5.out rfl).mono ?_
  rintro e w6 ⟨rfl, hb⟩
  have T6 := M.hl (T5.out.below hb)
  have X6 := M.hl (X5.out.below hb)
  have N6 := M.hl (N5.out.below hb)
  clear hb T5 X5 N5 D5a d0 d1 d2 d3
  go_wp2_with fail
  refine (toTapeS_any w6 a0 n c ts (HS.out.below T6.out.b) HL.out).mono ?_
  rintro e w7 ⟨r1, rs, rfl, hp, hO, hb⟩
  have S7 := M.hl (hO.at_slice hp)
  have T7 := M.hl (T6.out.below hb)
  have X7 := M.hl (X6.out.below hb)
  have N7 := M.hl (N6.out.below hb)
  clear hp hO hb T6 X6 N6
  go_wp2_with fail
  refine (eqTapeS_same w7 _ _ n n n n ts (X7.out.at_slice P4.out) S7.out).mono ?_
  rintro e w8 ⟨rfl, hb⟩
  have T8 := M.hl (T7.out.below hb)
  have X8 := M.hl (X7.out.below hb)
  have N8 := M.hl (N7.out.below hb)
  clear hb T7 X7 N7 S7
  go_wp2_with fail
  refine (toInt64S_any w8 a1 nk ck ks (M.nvS HK.out T8.out.b) HKL.out).mono ?_
  rintro e w9 ⟨k8, rfl, hN, -, hb⟩
  have I9 := M.hl (hN.nvn HNK.out)
  have T9 := M.hl (T8.out.below hb)
  have X9 := M.hl (X8.out.below hb)
  have N9 := M.hl (N8.out.below hb)
  have EI : Hid (Calls Try.prog 30 #[.slice (some ⟨kj, 0, none⟩) nk nk, .slice (some ⟨k8, 0, none⟩) nk nk] w9 fun e w' => e = .returned (.bool true) ∧ Below w9.heap.size w9 w') := eqInt64S_nv w9 _ _ nk nk nk ks (N9.out.nvn HNK.out) I9.out (by have := HKL.out; omega)
  clear hN hb T8 X8 N8 I9
  go_wp2_with fail
  refine EI.out.mono ?_
  rintro e w10 ⟨rfl, hb⟩
  have T10 := M.hl (T9.out.below hb)
  have X10 := M.hl (X9.out.below hb)
  have N10 := M.hl (N9.out.below hb)
  clear hb T9 X9 N9 EI
  have hT4 : M.tend ps4 1 ≤ 40000000 := M.tend_le (A := 1048576) (by have h1 := congrArg List.length P4.out; rw [List.length_map] at h1; have := HL.out; have := HN.out; omega) (by rw [P4.out]; have := HL.out; omega) (by omega) (by omega)
  have hT5 : M.tend qs5 1 ≤ 20000 := by
    rw [M.tend_eq, Q5.out, HL5.out]
    have := HFEW.out
    omega
  have hK4 : K ≤ 400 := HFEW.out.2.2
  have CM4 := M.hl (markTapeS_own w10 _ _ _ ps4 1 X10.out (Nat.le_refl _) hT4)
  have CM5 : Hid (∀ W, M.TwT w W w2'.heap.size w3.heap.size wj.heap.size w5.heap.size w3.heap.size w5.heap.size (.slice a3 L c3) (.slice b3 K e3) (.slice a5 L c5) (.slice b5 K e5) qs3 qs5 pz pz z → Calls Try.prog 33 #[.agg #[.slice a5 L c5, .slice b5 K e5, .string ⟨#[]⟩, .int .i64 z], .int .i64 1] W fun e w' => e = .returned (.int .i64 ((M.tend qs5 1 + 4 * K : Nat) : Int)) ∧ M.OwnT w' wj.heap.size w5.heap.size (.slice a5 L c5) (M.tmarks qs5 1) ∧ M.OwnPt w' wj.heap.size (.slice b5 K e5) (M.ptmarks K (M.tend qs5 1)) ∧ M.Mid wj.heap.size w5.heap.size W w') := fun W hW => by
    have := markTapeOut_own W wj.heap.size w5.heap.size (.slice a5 L c5) (.slice b5 K e5) qs5 pz ⟨#[]⟩ z hW.o5 hW.p5 hW.t5 hW.hs (by omega) (by rw [HKK.out]; omega)
    rw [HKK.out] at this
    exact this
  have CH5 : Hid (∀ W, M.OwnT W wj.heap.size w5.heap.size (.slice a5 L c5) (M.tmarks qs5 1) → M.OwnPt W wj.heap.size (.slice b5 K e5) (M.ptmarks K (M.tend qs5 1)) → Calls Try.prog 34 #[.agg #[.slice a5 L c5, .slice b5 K e5, .string ⟨#[]⟩, .int .i64 z], .int .i64 1] W fun e w' => e = .returned (.int .i64 ((M.tend qs5 1 + 4 * K : Nat) : Int)) ∧ Below W.heap.size W w') := fun W hW hP => heldTapeOut_own W _ _ _ _ qs5 K ⟨#[]⟩ z hW hP (by omega) (by omega)
  generalize M.tend ps4 1 = N4 at hT4 CM4
  generalize M.tend qs5 1 = N5 at hT5 CM5 CH5
  obtain ⟨M5, hM5⟩ : ∃ M5, M5 = N5 + 4 * K := ⟨_, rfl⟩
  rw [← hM5] at CM5 CH5
  have CI4 : Hid (∀ W, M.NumsAt W kj nk ks → Calls Try.prog 32 #[.slice (some ⟨kj, 0, none⟩) nk nk, .int .i64 (N4 : Int)] W fun e w' => ∃ v : Int, e = .returned (.int .i64 v) ∧ 0 ≤ v ∧ W.grownBy w' (some kj)) := fun W hW => markInt64S_on W kj nk nk ks (N4 : Int) hW HNK.out HKL.out (by omega) (by omega)
  have dd5 : decide ((M5 : Int) < 0) = false := decide_eq_false (by omega)
  have dq : ((M5 : Int) != (M5 : Int)) = false := by simp
  rw [show ((1 : Nat) : Int) = 1 from rfl] at CM4
  clear hM5
  go_wp2_with fail
  refine CM4.out.mono ?_
  rintro e w11 ⟨rfl, -, hm⟩
  have T11 := M.hl (T10.out.mid hm (by omega) (by omega) (Nat.le_trans KJ.out.1 (Nat.le_of_lt KJ.out.2)) (Nat.le_trans (Nat.le_trans KJ.out.1 (Nat.le_of_lt KJ.out.2)) Z45.out) (by have := ZB3.out; omega) (by have := T10.out.hs; have := Z34.out; have := Z45.out; have := KJ.out; omega))
  have N11 := M.hl (N10.out.mid hm (.inr KJ.out.1))
  clear hm T10 X10 N10 CM4
  go_wp2_with fail
  refine (CI4.out w11 N11.out).mono ?_
  rintro e w12 ⟨vj, rfl, hvj, hg⟩
  have hm := M.grown_mid hg
  have T12 := M.hl (T11.out.mid hm (by have := Z34.out; have := KJ.out; omega) (by have := Z34.out; have := KJ.out; omega) KJ.out.2 (Nat.le_trans KJ.out.2 Z45.out) (by have := Z34.out; have := KJ.out; have := ZB3.out; omega) (Nat.le_of_lt N11.out.lt))
  have dj : decide (vj < 0) = false := decide_eq_false (by omega)
  clear hm hg T11 N11 CI4
  obtain ⟨d0, d1, d2, d3⟩ := M.quad T12.out.d
  obtain ⟨g0, g1, g2, g3⟩ := M.quad T12.out.g
  go_wp2_with fail
  refine (EQ.out w12 _ _ T12.out Q5.out rfl).mono ?_
  rintro e w13 ⟨rfl, hb⟩
  have T13 := M.hl (T12.out.below hb)
  clear hb T12 d0 d1 d2 d3 g0 g1 g2 g3
  obtain ⟨g0, g1, g2, g3⟩ := M.quad T13.out.g
  go_wp2_with fail
  refine (CM5.out w13 T13.out).mono ?_
  rintro e w14 ⟨rfl, hO, hP, hm⟩
  have T14 := M.hl (T13.out.mark hm hO hP (by have := Z34.out; have := KJ.out; omega) (by have := Z34.out; have := KJ.out; omega) (Nat.le_refl _) (by have := Z34.out; have := KJ.out; have := ZB3.out; omega) (by have := T13.out.hs; have := Z45.out; omega))
  clear hO hP hm T13 g0 g1 g2 g3
  obtain ⟨g0, g1, g2, g3⟩ := M.quad T14.out.g
  go_wp2_with fail
  refine (CH5.out w14 T14.out.o5 T14.out.p5).mono ?_
  rintro e w15 ⟨rfl, hb⟩
  have T15 := M.hl (T14.out.below hb)
  clear hb T14 g0 g1 g2 g3
  go_wp2_with fail
  refine (toTapeS_any w15 a0 n c ts (HS.out.below T15.out.b) HL.out).mono ?_
  rintro e w16 ⟨r16, rs16, rfl, hp, hO, hb⟩
  have S16 := M.hl (hO.at_slice hp)
  have T16 := M.hl (T15.out.below hb)
  clear hp hO hb T15
  go_wp2_with fail
  refine (toInt64S_any w16 a1 nk ck ks (M.nvS HK.out T16.out.b) HKL.out).mono ?_
  rintro e w17 ⟨k17, rfl, hN, -, hb⟩
  have I17 := M.hl (hN.nvn HNK.out)
  have S17 := M.hl (S16.out.below hb)
  have T17 := M.hl (T16.out.below hb)
  clear hN hb T16 S16
  go_wp2_with fail
  refine (CIC.out w17 _ _ S17.out I17.out).mono ?_
  rintro e w18 ⟨v18, u18, qs18, rfl, hq, hO, hP, hb⟩
  obtain ⟨a18, c18, rfl⟩ := hO.lenN (n := L) (by rw [← HLL.out, ← hq, List.length_map])
  obtain ⟨b18, e18, rfl⟩ : ∃ b e, u18 = .slice b K e := by rw [← HKK.out]; exact hP.len
  have A18 : Hid (∀ o, Below w18.heap.size w18 (w18.alloc o)) := fun o => (Below.refl _ _).alloc (Nat.le_refl _) _
  have S18 := M.hl (fun o => (hO.at_slice hq).below (A18.out o))
  have P18 := M.hl (fun o => hP.at_slice.below (A18.out o))
  have T18 := M.hl (fun o => (T17.out.below hb).below (A18.out o))
  clear hq hO hP hb T17 S17 I17
  have d0 : ∀ o, (w18.alloc o).cell? ⟨w3.heap.size, 0, none⟩ = some (.slice a3 L c3) := fun o => M.bk_cell (T18.out o).d 0 _ rfl
  have d1 : ∀ o, (w18.alloc o).cell? ⟨w3.heap.size, 1, none⟩ = some (.slice b3 K e3) := fun o => M.bk_cell (T18.out o).d 1 _ rfl
  have d2 : ∀ o, (w18.alloc o).cell? ⟨w3.heap.size, 2, none⟩ = some (.string ⟨#[]⟩) := fun o => M.bk_cell (T18.out o).d 2 _ rfl
  have d3 : ∀ o, (w18.alloc o).cell? ⟨w3.heap.size, 3, none⟩ = some (.int .i64 z) := fun o => M.bk_cell (T18.out o).d 3 _ rfl
  go_wp2_with fail
  refine (eqTapeOut_same _ a18 a3 b18 b3 L c18 c3 K e18 e3 K e3 us pz ⟨#[]⟩ z (S18.out _) ((T18.out _).o3.at_slice Q3.out) (P18.out _) (T18.out _).p3.at_slice rfl).mono ?_
  rintro e w19 ⟨rfl, hb⟩
  have T19 := M.hl ((T18.out _).below hb)
  clear hb T18 S18 P18 d0 d1 d2 d3
  obtain ⟨g0, g1, g2, g3⟩ := M.quad T19.out.g
  go_wp2_with fail
  refine (CH5.out w19 T19.out.o5 T19.out.p5).mono ?_
  rintro e w20 ⟨rfl, hb⟩
  have B20 := M.hl (M.sl T19.out.b hb)
  clear hb T19 g0 g1 g2 g3
  go_wp2
  go_ret
  exact ⟨rfl, B20.out⟩
end Go.Proofs.Ytappficbjjkmiaa
