/-
  What the laws' helpers on rows of packets do: eqPacketS, markPacketS, heldPacketS.
-/
import Derived.Test.YtafenhodfoflbabOwnPkts
import Derived.Test.YtafenhodfoflbabPktSW
import Derived.Test.YtafenhodfoflbabMarkText
import Derived.Test.YtafenhodfoflbabStrWalks
import Derived.Deep.RegionWith
namespace Go.Proofs.Ytafenhodfoflbab
open Go.RowKit

set_option maxRecDepth 100000 in
set_option maxHeartbeats 1600000 in
theorem eqPktS_same (w : World) (a a' : Option Addr) (len cap len' cap' : Nat) (ps : List M.PktD) (h : M.Pkts w a len cap ps) (h' : M.Pkts w a' len' cap' ps) :
    Calls Try.prog 49 #[.slice a len cap, .slice a' len' cap'] w fun e w' => e = .returned (.bool true) ∧ Below w.heap.size w w' := by
  have hlm : len ≤ 9223372036854775807 := by obtain ⟨_, h1, h2, _⟩ := h; unfold maxLen at h2; omega
  have HF := M.hl h
  have HG := M.hl h'
  obtain rfl : len = len' := by rw [h.1, h'.1]
  clear h h'
  have d0 : ((len : Int) != (len : Int)) = false := by simp
  go_enter Try.func49, Try.ntmps49
  go_wp2
  go_loopw [5] (fun i wr => ∃ k : Nat, i = .int .i64 k ∧ k ≤ len ∧ Hid (Below w.heap.size w wr)) (fun i _ => len - (intOf i).toNat)
  case atStart => exact ⟨0, rfl, Nat.zero_le _, Below.refl _ _⟩
  case round =>
    obtain ⟨k, rfl, hk, HBr⟩ := hrel
    by_cases hlt : k < len
    · obtain ⟨hfl, _, _, hfa⟩ := HF.out.below HBr.out
      obtain ⟨b, off, rfl, hat⟩ := hfa (by omega)
      obtain ⟨c0, c1, c2, c3⟩ := hat k (by omega)
      obtain ⟨hfl', _, _, hfa'⟩ := HG.out.below HBr.out
      obtain ⟨b', off', rfl, hat'⟩ := hfa' (by omega)
      obtain ⟨e0, e1, e2, e3⟩ := hat' k (by omega)
      generalize ps[k]'(by omega) = f at c0 c1 c2 c3 e0 e1 e2 e3
      clear hat hfa hfl hat' hfa' hfl'
      have HQ := M.hl (fun W => eqPkt_same f.q f.l f.s f.c W)
      go_wp2_with fail
      go_region_with (go_at_call 62; refine (HQ.out _).mono ?_; rintro e w2 ⟨rfl, hb2⟩)
      all_goals
        go_wp2
        go_roundw
        case rel => exact ⟨k + 1, by go_num, by omega, HBr.out.trans ((show Below wr.heap.size wr w2 from ⟨hb2.os, hb2.tape, hb2.output, hb2.size, hb2.block⟩).mono HBr.out.size)⟩
        case measure => simp [intOf]; omega
    · go_wp2
      go_ret
      exact ⟨rfl, HBr.out⟩

/-- The packet of the marks from a number on. -/
def M.pmark (k : Nat) : M.PktD := ⟨(k : Int), (((k : Int) + 1) % 3 == 0), M.mt (k + 2), (k : Int) + 3⟩
def M.pmarks (n k : Nat) : List M.PktD := (List.range n).map fun i => M.pmark (k + 4 * i)
theorem M.pmarks_len (n k : Nat) : (M.pmarks n k).length = n := by simp [M.pmarks]
theorem M.pmarks_snoc (n k : Nat) : M.pmarks (n + 1) k = M.pmarks n k ++ [M.pmark (k + 4 * n)] := by simp [M.pmarks, List.range_succ]
theorem M.pmarks_at {n k i : Nat} (h : i < (M.pmarks n k).length) : (M.pmarks n k)[i] = M.pmark (k + 4 * i) := by simp [M.pmarks]
theorem M.PktsAt.snoc {w W : World} {H k : Nat} {ps : List M.PktD} {p : M.PktD} (h : M.PktsAt w H 0 ps) (hk : ps.length = k) (hold : ∀ j, j < k * 4 → W.cell? ⟨H, j, none⟩ = w.cell? ⟨H, j, none⟩) (h0 : W.cell? ⟨H, k * 4, none⟩ = some (.int .i64 p.q)) (h1 : W.cell? ⟨H, k * 4 + 1, none⟩ = some (.bool p.l)) (h2 : W.cell? ⟨H, k * 4 + 2, none⟩ = some (.string p.s)) (h3 : W.cell? ⟨H, k * 4 + 3, none⟩ = some (.int .i64 p.c)) :
    M.PktsAt W H 0 (ps ++ [p]) := by
  intro i hi
  rw [List.length_append] at hi
  simp only [Nat.zero_add]
  by_cases e : i = k
  · subst e
    have : (ps ++ [p])[i] = p := by simp [← hk]
    rw [this]
    exact ⟨h0, h1, h2, h3⟩
  · have hi' : i < ps.length := by simp at hi; omega
    rw [List.getElem_append_left hi']
    obtain ⟨g0, g1, g2, g3⟩ := h i hi'
    simp only [Nat.zero_add] at g0 g1 g2 g3
    exact ⟨(hold _ (by omega)).trans g0, (hold _ (by omega)).trans g1, (hold _ (by omega)).trans g2, (hold _ (by omega)).trans g3⟩
theorem M.co {W : World} {H i j : Nat} {v : Value} (h : i ≠ j) : (W.setCell ⟨H, i, none⟩ v).cell? ⟨H, j, none⟩ = W.cell? ⟨H, j, none⟩ := World.cell?_setCell_other _ _ _ _ (by intro e; simp only [Addr.mk.injEq] at e; omega)
theorem M.grw1 {w W : World} {g o : Nat} {v : Value} (h : w.grownBy W (some g)) : w.grownBy (W.setCell ⟨g, o, none⟩ v) (some g) :=
  ⟨h.os, h.tape, h.output, by have := h.size; simp [World.setCell]; omega, fun k hk hne => by
    rw [Below.heap_setCell W ⟨g, o, none⟩ v k (fun e => hne (by rw [e]))]; exact h.block k hk hne⟩

set_option maxRecDepth 100000 in
set_option maxHeartbeats 3200000 in
theorem markPktS_at (w : World) (g n cap N k : Nat) (hr : M.Row w g 53 N) (hN : n * 4 ≤ N) (hl : n ≤ 4) (hk1 : 1 ≤ k) (hk : k ≤ 2000000) :
    Calls Try.prog 51 #[.slice (some ⟨g, 0, none⟩) n cap, .int .i64 (k : Int)] w fun e w' => e = .returned (.int .i64 ((k + 4 * n : Nat) : Int)) ∧ M.PktsAt w' g 0 (M.pmarks n k) ∧ M.Row w' g 53 N ∧ w.grownBy w' (some g) := by
  have HR := M.hl hr
  clear hr
  go_enter Try.func51, Try.ntmps51
  go_wp2
  go_loopw [1, 5] (fun x y wr => ∃ (i K : Nat), x = .int .i64 (K : Int) ∧ y = .int .i64 i ∧ i ≤ n ∧ K ≤ 3000000 ∧ Hid (K = k + 4 * i) ∧ Hid (M.PktsAt wr g 0 (M.pmarks i k)) ∧ Hid (M.Row wr g 53 N) ∧ Hid (w.grownBy wr (some g))) (fun _ y _ => n - (intOf y).toNat)
  case atStart => exact ⟨0, k, rfl, rfl, Nat.zero_le _, by omega, rfl, fun i hi => by simp [M.pmarks] at hi, HR, World.grownBy.refl _ _⟩
  case round =>
    obtain ⟨i, K, rfl, rfl, hi, hK3, HK, HSr, HRr, HGr⟩ := hrel
    by_cases hlt : i < n
    · have HT : Hid (∀ W, Calls Try.prog 63 #[.int .i64 ((K : Int) + 2)] W fun e w' => e = .returned (.string (M.mt (K + 2))) ∧ Below W.heap.size W w') := fun W => by
        have := markText_any (K + 2) W (by omega) (by omega)
        rw [show ((K + 2 : Nat) : Int) = (K : Int) + 2 by omega] at this
        exact this
      obtain ⟨v0, g0⟩ := HRr.out.cell (i := i * 4) (by omega)
      obtain ⟨v1, g1⟩ := HRr.out.cell (i := i * 4 + 1) (by omega)
      have fr := HRr.out.free
      obtain ⟨y, hy⟩ : ∃ y, y = M.mt (K + 2) := ⟨_, rfl⟩
      rw [← hy] at HT
      have HY := M.hl hy
      clear hy
      go_wp2_with fail
      refine (HT.out _).mono ?_
      rintro e w1 ⟨rfl, hb⟩
      have hRa : M.Row ((wr.setCell ⟨g, i * 4, none⟩ (.int .i64 (K : Int))).setCell ⟨g, i * 4 + 1, none⟩ (.bool (((K : Int) + 1) % 3 == 0))) g 53 N := (HRr.out.setCell _ _).setCell _ _
      have hR1 : M.Row w1 g 53 N := hRa.of_block (hb.block g hRa.lt)
      have HR1 := M.hl hR1
      obtain ⟨v2, g2⟩ := hR1.cell (i := i * 4 + 2) (by omega)
      obtain ⟨v3, g3⟩ := hR1.cell (i := i * 4 + 3) (by omega)
      have fr1 := hR1.free
      have CE : Hid (∀ j, w1.cell? ⟨g, j, none⟩ = ((wr.setCell ⟨g, i * 4, none⟩ (.int .i64 (K : Int))).setCell ⟨g, i * 4 + 1, none⟩ (.bool (((K : Int) + 1) % 3 == 0))).cell? ⟨g, j, none⟩) := fun j => World.cell?_of_block (a := ⟨g, j, none⟩) (hb.block g hRa.lt)
      have HGa := M.grw1 (o := i * 4 + 1) (v := .bool (((K : Int) + 1) % 3 == 0)) (M.grw1 (o := i * 4) (v := .int .i64 (K : Int)) HGr.out)
      have HG1 : Hid (w.grownBy w1 (some g)) := HGa.trans ⟨hb.os, hb.tape, hb.output, hb.size, fun k hk _ => hb.block k hk⟩
      have HS2 : Hid (M.PktsAt ((w1.setCell ⟨g, i * 4 + 2, none⟩ (.string y)).setCell ⟨g, i * 4 + 3, none⟩ (.int .i64 ((K : Int) + 3))) g 0 (M.pmarks (i + 1) k)) := by
        show M.PktsAt _ _ _ _
        rw [M.pmarks_snoc, ← HK.out]
        refine HSr.out.snoc (M.pmarks_len i k) (fun j hj => ?_) ?_ ?_ ?_ ?_
        · rw [M.co (by omega), M.co (by omega), CE.out j, M.co (by omega), M.co (by omega)]
        · rw [M.co (by omega), M.co (by omega), CE.out, M.co (by omega), World.cell?_setCell_same _ _ _ g0]; rfl
        · rw [M.co (by omega), M.co (by omega), CE.out, World.cell?_setCell_same _ _ _ ((M.co (by omega)).trans g1)]; rfl
        · rw [M.co (by omega), World.cell?_setCell_same _ _ _ g2, HY.out]; rfl
        · rw [World.cell?_setCell_same _ _ _ ((M.co (by omega)).trans g3)]; rfl
      have HR2 := M.hl ((hR1.setCell (i * 4 + 2) (.string y)).setCell (i * 4 + 3) (.int .i64 ((K : Int) + 3)))
      have HG2 := M.hl (M.grw1 (o := i * 4 + 3) (v := .int .i64 ((K : Int) + 3)) (M.grw1 (o := i * 4 + 2) (v := .string y) HG1.out))
      clear hb hRa hR1 HGa g0 g1 fr HT
      go_wp2
      go_roundw
      case rel => exact ⟨i + 1, K + 4, by go_num, by go_num, by omega, by have := HK.out; omega, by show _ = _; have := HK.out; omega, HS2, HR2, HG2⟩
      case measure => simp [intOf]; omega
    · obtain rfl : i = n := by omega
      have HKK : Hid ((K : Int) = ((k + 4 * i : Nat) : Int)) := by show _ = _; rw [HK.out]
      go_wp2
      go_ret
      exact ⟨by rw [HKK.out]; rfl, HSr.out, HRr.out, HGr.out⟩
theorem markPktS_own (w : World) (base : Nat) (v : Value) (ps : List M.PktD) (k : Nat) (h : M.OwnP w base v ps) (hl : ps.length ≤ 4) (hk1 : 1 ≤ k) (hk : k ≤ 2000000) :
    Calls Try.prog 51 #[v, .int .i64 (k : Int)] w fun e w' => e = .returned (.int .i64 ((k + 4 * ps.length : Nat) : Int)) ∧ M.OwnP w' base v (M.pmarks ps.length k) ∧ w.grownBy w' v.ownBlock := by
  obtain ⟨hl0, ⟨rfl, h0⟩ | ⟨g, cap, cur, rfl, hb, hh, hn, hc, hz, ht⟩⟩ := h
  · rw [h0]
    go_enter Try.func51, Try.ntmps51
    go_wp2
    go_loopw [1, 5] (fun x y wr => x = .int .i64 (k : Int) ∧ y = .int .i64 0 ∧ w = wr) (fun _ _ _ => 0)
    case atStart => exact ⟨rfl, rfl, rfl⟩
    case round =>
      obtain ⟨rfl, rfl, rfl⟩ := hrel
      go_wp2
      go_ret
      exact ⟨rfl, M.OwnP.nil _ _, World.grownBy.refl _ _⟩
  · refine (markPktS_at w g ps.length cap (cap * 4) k ⟨cur, hh, hz⟩ (Nat.mul_le_mul_right 4 hn) hl hk1 hk).mono ?_
    rintro e w' ⟨rfl, hat, ⟨cur', hh', hz'⟩, hg⟩
    refine ⟨rfl, ⟨by rw [M.cellsP_len], .inr ⟨g, cap, cur', by rw [M.pmarks_len], hb, hh', by rw [M.pmarks_len]; exact hn, hc, hz', ?_⟩⟩, hg⟩
    apply List.ext_getElem?
    intro t
    rw [M.pmarks_len]
    by_cases h : t < ps.length * 4
    · rw [List.getElem?_take_of_lt h]
      have hl2 : t / 4 < (M.pmarks ps.length k).length := by rw [M.pmarks_len]; omega
      obtain ⟨c0, c1, c2, c3⟩ := hat (t / 4) hl2
      have key : ∀ c, c < 4 → cur'.toList[t / 4 * 4 + c]? = (M.pcells ((M.pmarks ps.length k)[t / 4]))[c]? := fun c hc4 => by
        have hcell : w'.cell? ⟨g, t / 4 * 4 + c, none⟩ = cur'.toList[t / 4 * 4 + c]? := by simp [World.cell?, hh']
        rw [← hcell]
        simp only [Nat.zero_add] at c0 c1 c2 c3
        match c, hc4 with
        | 0, _ => exact c0
        | 1, _ => exact c1
        | 2, _ => exact c2
        | 3, _ => exact c3
      have h1 := key (t % 4) (Nat.mod_lt _ (by decide))
      have h2 := M.cellsP_get (M.pmarks ps.length k) (t / 4) hl2 (t % 4) (Nat.mod_lt _ (by decide))
      rw [show t / 4 * 4 + t % 4 = t by omega] at h1 h2
      rw [h1, h2]
    · rw [List.getElem?_eq_none (by rw [List.length_take]; exact Nat.le_trans (Nat.min_le_left _ _) (by omega)), List.getElem?_eq_none (by rw [M.cellsP_len, M.pmarks_len]; omega)]

set_option maxRecDepth 100000 in
set_option maxHeartbeats 3200000 in
theorem heldPktS_at (w : World) (a : Option Addr) (n cap k : Nat) (h : M.Pkts w a n cap (M.pmarks n k)) (hl : n ≤ 4) (hk1 : 1 ≤ k) (hk : k ≤ 2000000) :
    Calls Try.prog 53 #[.slice a n cap, .int .i64 (k : Int)] w fun e w' => e = .returned (.int .i64 ((k + 4 * n : Nat) : Int)) ∧ Below w.heap.size w w' := by
  have HF := M.hl h
  clear h
  go_enter Try.func53, Try.ntmps53
  go_wp2
  go_loopw [1, 5] (fun x y wr => ∃ (i K : Nat), x = .int .i64 (K : Int) ∧ y = .int .i64 i ∧ i ≤ n ∧ K ≤ 3000000 ∧ Hid (K = k + 4 * i) ∧ Hid (Below w.heap.size w wr)) (fun _ y _ => n - (intOf y).toNat)
  case atStart => exact ⟨0, k, rfl, rfl, Nat.zero_le _, by omega, rfl, Below.refl _ _⟩
  case round =>
    obtain ⟨i, K, rfl, rfl, hi, hK3, HK, HBr⟩ := hrel
    by_cases hlt : i < n
    · obtain ⟨-, -, -, hfa⟩ := HF.out.below HBr.out
      obtain ⟨b, off, rfl, hat⟩ := hfa (by omega)
      obtain ⟨c0, c1, c2, c3⟩ := hat i (by rw [M.pmarks_len]; exact hlt)
      rw [M.pmarks_at, ← HK.out] at c0 c1 c2 c3
      unfold M.pmark at c0 c1 c2 c3
      simp only at c0 c1 c2 c3
      have HT : Hid (∀ W, Calls Try.prog 63 #[.int .i64 ((K : Int) + 2)] W fun e w' => e = .returned (.string (M.mt (K + 2))) ∧ Below W.heap.size W w') := fun W => by
        have := markText_any (K + 2) W (by omega) (by omega)
        rw [show ((K + 2 : Nat) : Int) = (K : Int) + 2 by omega] at this
        exact this
      generalize M.mt (K + 2) = T at HT c2
      have CT := M.hl (fun (W : World) (j : Nat) (v : Value) (hc : wr.cell? ⟨b, off + j, none⟩ = some v) (hW : Below wr.heap.size wr W) => (hW.cell (p := ⟨b, off + j, none⟩) (World.block_lt_of_cell? wr _ hc)).trans hc)
      have BD : Hid (Below wr.heap.size wr wr.drew) := (Below.refl _ _).drew
      have dz : (T.toList != T.toList) = false := by simp
      have dz' : (T.toList == T.toList) = true := by simp
      obtain ⟨z, hz⟩ : ∃ z : Bool, z = (((K : Int) + 1) % 3 == 0) := ⟨_, rfl⟩
      have hz' := hz.symm
      rw [← hz] at c1
      have db : (z != z) = false := by simp
      clear hat hfa hz
      go_wp2_with fail
      go_region_with (go_at_call 63; refine (HT.out _).mono ?_; rintro e w2 ⟨rfl, hb2⟩; have B2 := M.hl (M.sl BD.out hb2); have x2 : w2.cell? ⟨b, off + i * 4 + 2, none⟩ = some (.string T) := (B2.out.cell (p := ⟨b, off + i * 4 + 2, none⟩) (World.block_lt_of_cell? wr _ c2)).trans c2; have x3 : w2.cell? ⟨b, off + i * 4 + 3, none⟩ = some (.int .i64 ((K : Int) + 3)) := (B2.out.cell (p := ⟨b, off + i * 4 + 3, none⟩) (World.block_lt_of_cell? wr _ c3)).trans c3)
      all_goals
        go_wp2
        go_roundw
        case rel => exact ⟨i + 1, K + 4, by go_num, by go_num, by omega, by have := HK.out; omega, by show _ = _; have := HK.out; omega, HBr.out.trans (B2.out.mono HBr.out.size)⟩
        case measure => simp [intOf]; omega
    · obtain rfl : i = n := by omega
      have HKK : Hid ((K : Int) = ((k + 4 * i : Nat) : Int)) := by show _ = _; rw [HK.out]
      go_wp2
      go_ret
      exact ⟨by rw [HKK.out]; rfl, HBr.out⟩
theorem heldPktS_own (w : World) (base : Nat) (v : Value) (n k : Nat) (h : M.OwnP w base v (M.pmarks n k)) (hl : n ≤ 4) (hk1 : 1 ≤ k) (hk : k ≤ 2000000) :
    Calls Try.prog 53 #[v, .int .i64 (k : Int)] w fun e w' => e = .returned (.int .i64 ((k + 4 * n : Nat) : Int)) ∧ Below w.heap.size w w' := by
  obtain ⟨a, cap, rfl, hv⟩ := h.pkts
  rw [M.pmarks_len] at hv ⊢
  exact heldPktS_at w a n cap k hv hl hk1 hk
end Go.Proofs.Ytafenhodfoflbab
