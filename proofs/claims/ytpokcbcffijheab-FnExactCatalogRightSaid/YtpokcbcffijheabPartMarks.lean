/-
  What the laws' helpers on rows of parts do: eqPartS, markPartS, heldPartS.
-/
import Derived.Test.YtpokcbcffijheabOwnParts
import Derived.WalkLawsBesides
import Derived.Deep.RegionWith
namespace Go.Proofs.Ytpokcbcffijheab
open Go.RowKit

set_option maxRecDepth 100000 in
set_option maxHeartbeats 800000 in
theorem eqPart_same (q l s c : Int) (w : World) :
    Calls Try.prog 74 #[.agg #[.int .i64 q, .int .i64 l, .int .i64 s, .int .i64 c], .agg #[.int .i64 q, .int .i64 l, .int .i64 s, .int .i64 c]] w fun e w' => e = .returned (.bool true) ∧ Below w.heap.size w w' := by
  have HB : Hid (∀ o1 o2, Below w.heap.size w ((w.alloc o1).alloc o2)) := fun o1 o2 => ((Below.refl _ _).alloc (Nat.le_refl _) _).alloc (by simp) _
  go_enter Try.func74, Try.ntmps74
  go_wp2
  go_ret
  exact ⟨rfl, HB.out _ _⟩

set_option maxRecDepth 100000 in
set_option maxHeartbeats 1600000 in
theorem eqPartS_same (w : World) (a a' : Option Addr) (len cap len' cap' : Nat) (ps : List M.PartD) (h : M.Pts w a len cap ps) (h' : M.Pts w a' len' cap' ps) :
    Calls Try.prog 43 #[.slice a len cap, .slice a' len' cap'] w fun e w' => e = .returned (.bool true) ∧ Below w.heap.size w w' := by
  have hlm : len ≤ 9223372036854775807 := by obtain ⟨_, h1, h2, _⟩ := h; unfold maxLen at h2; omega
  have HF := M.hl h
  have HG := M.hl h'
  obtain rfl : len = len' := by rw [h.1, h'.1]
  clear h h'
  have d0 : ((len : Int) != (len : Int)) = false := by simp
  go_enter Try.func43, Try.ntmps43
  go_wp2
  go_loopw [5] (fun i wr => ∃ k : Nat, i = .int .i64 k ∧ k ≤ len ∧ Hid (Below w.heap.size w wr)) (fun i _ => len - (intOf i).toNat)
  case atStart => exact ⟨0, rfl, Nat.zero_le _, Below.refl _ _⟩
  case round =>
    obtain ⟨k, rfl, hk, HBr⟩ := hrel
    by_cases hlt : k < len
    · obtain ⟨hfl, _, _, hfa⟩ := HF.out.below HBr.out
      obtain ⟨b, off, rfl, hat⟩ := hfa (by omega)
      obtain ⟨c0, c1, c2, c3⟩ := hat k (by omega)
      obtain ⟨hfl', _, _, hfa'⟩ := HG.out.below HBr.out
      obtain ⟨b', off', rfl, hat'⟩ := hfa' (by omega)
      obtain ⟨e0, e1, e2, e3⟩ := hat' k (by omega)
      generalize ps[k]'(by omega) = f at c0 c1 c2 c3 e0 e1 e2 e3
      clear hat hfa hfl hat' hfa' hfl'
      have HQ := M.hl (fun W => eqPart_same f.q f.l f.s f.c W)
      go_wp2_with fail
      go_region_with (go_at_call 74; refine (HQ.out _).mono ?_; rintro e w2 ⟨rfl, hb2⟩)
      all_goals
        go_wp2
        go_roundw
        case rel => exact ⟨k + 1, by go_num, by omega, HBr.out.trans ((show Below wr.heap.size wr w2 from ⟨hb2.os, hb2.tape, hb2.output, hb2.size, hb2.block⟩).mono HBr.out.size)⟩
        case measure => simp [intOf]; omega
    · go_wp2
      go_ret
      exact ⟨rfl, HBr.out⟩

/-- The part of the marks from a number on. -/
def M.ptmark (k : Nat) : M.PartD := ⟨(k : Int), (k : Int) + 1, (k : Int) + 2, (k : Int) + 3⟩
def M.ptmarks (n k : Nat) : List M.PartD := (List.range n).map fun i => M.ptmark (k + 4 * i)
theorem M.ptmarks_len (n k : Nat) : (M.ptmarks n k).length = n := by simp [M.ptmarks]
theorem M.ptmarks_snoc (n k : Nat) : M.ptmarks (n + 1) k = M.ptmarks n k ++ [M.ptmark (k + 4 * n)] := by simp [M.ptmarks, List.range_succ]
theorem M.ptmarks_at {n k i : Nat} (h : i < (M.ptmarks n k).length) : (M.ptmarks n k)[i] = M.ptmark (k + 4 * i) := by simp [M.ptmarks]
theorem M.PtsAt.snoc {w W : World} {H k : Nat} {ps : List M.PartD} {p : M.PartD} (h : M.PtsAt w H 0 ps) (hk : ps.length = k) (hold : ∀ j, j < k * 4 → W.cell? ⟨H, j, none⟩ = w.cell? ⟨H, j, none⟩) (h0 : W.cell? ⟨H, k * 4, none⟩ = some (.int .i64 p.q)) (h1 : W.cell? ⟨H, k * 4 + 1, none⟩ = some (.int .i64 p.l)) (h2 : W.cell? ⟨H, k * 4 + 2, none⟩ = some (.int .i64 p.s)) (h3 : W.cell? ⟨H, k * 4 + 3, none⟩ = some (.int .i64 p.c)) :
    M.PtsAt W H 0 (ps ++ [p]) := by
  intro i hi
  rw [List.length_append] at hi
  simp only [Nat.zero_add]
  by_cases e : i = k
  · subst e
    have : (ps ++ [p])[i] = p := by simp [← hk]
    rw [this]
    exact ⟨h0, h1, h2, h3⟩
  · have hi' : i < ps.length := by simp at hi; omega
    rw [List.getElem_append_left hi']
    obtain ⟨g0, g1, g2, g3⟩ := h i hi'
    simp only [Nat.zero_add] at g0 g1 g2 g3
    exact ⟨(hold _ (by omega)).trans g0, (hold _ (by omega)).trans g1, (hold _ (by omega)).trans g2, (hold _ (by omega)).trans g3⟩
theorem M.cop {W : World} {H i j : Nat} {v : Value} (h : i ≠ j) : (W.setCell ⟨H, i, none⟩ v).cell? ⟨H, j, none⟩ = W.cell? ⟨H, j, none⟩ := World.cell?_setCell_other _ _ _ _ (by intro e; simp only [Addr.mk.injEq] at e; omega)
theorem M.grp1 {w W : World} {g o : Nat} {v : Value} (h : w.grownBy W (some g)) : w.grownBy (W.setCell ⟨g, o, none⟩ v) (some g) :=
  ⟨h.os, h.tape, h.output, by have := h.size; simp [World.setCell]; omega, fun k hk hne => by
    rw [Below.heap_setCell W ⟨g, o, none⟩ v k (fun e => hne (by rw [e]))]; exact h.block k hk hne⟩

set_option maxRecDepth 100000 in
set_option maxHeartbeats 3200000 in
theorem markPartS_at (w : World) (g n cap N k : Nat) (hr : M.Row w g 76 N) (hN : n * 4 ≤ N) (hl : n ≤ 1048576) (hk1 : 1 ≤ k) (hk : k ≤ 40000000) :
    Calls Try.prog 84 #[.slice (some ⟨g, 0, none⟩) n cap, .int .i64 (k : Int)] w fun e w' => e = .returned (.int .i64 ((k + 4 * n : Nat) : Int)) ∧ M.PtsAt w' g 0 (M.ptmarks n k) ∧ M.Row w' g 76 N ∧ w.grownBy w' (some g) := by
  have HR := M.hl hr
  clear hr
  go_enter Try.func84, Try.ntmps84
  go_wp2
  go_loopw [1, 5] (fun x y wr => ∃ (i K : Nat), x = .int .i64 (K : Int) ∧ y = .int .i64 i ∧ i ≤ n ∧ K ≤ 50000000 ∧ Hid (K = k + 4 * i) ∧ Hid (M.PtsAt wr g 0 (M.ptmarks i k)) ∧ Hid (M.Row wr g 76 N) ∧ Hid (w.grownBy wr (some g))) (fun _ y _ => n - (intOf y).toNat)
  case atStart => exact ⟨0, k, rfl, rfl, Nat.zero_le _, by omega, rfl, fun i hi => by simp [M.ptmarks] at hi, HR, World.grownBy.refl _ _⟩
  case round =>
    obtain ⟨i, K, rfl, rfl, hi, hK3, HK, HSr, HRr, HGr⟩ := hrel
    by_cases hlt : i < n
    · obtain ⟨v0, g0⟩ := HRr.out.cell (i := i * 4) (by omega)
      obtain ⟨v1, g1⟩ := HRr.out.cell (i := i * 4 + 1) (by omega)
      obtain ⟨v2, g2⟩ := HRr.out.cell (i := i * 4 + 2) (by omega)
      obtain ⟨v3, g3⟩ := HRr.out.cell (i := i * 4 + 3) (by omega)
      have fr := HRr.out.free
      have HS2 : Hid (M.PtsAt ((((wr.setCell ⟨g, i * 4, none⟩ (.int .i64 (K : Int))).setCell ⟨g, i * 4 + 1, none⟩ (.int .i64 ((K : Int) + 1))).setCell ⟨g, i * 4 + 2, none⟩ (.int .i64 ((K : Int) + 2))).setCell ⟨g, i * 4 + 3, none⟩ (.int .i64 ((K : Int) + 3))) g 0 (M.ptmarks (i + 1) k)) := by
        show M.PtsAt _ _ _ _
        rw [M.ptmarks_snoc, ← HK.out]
        refine HSr.out.snoc (M.ptmarks_len i k) (fun j hj => ?_) ?_ ?_ ?_ ?_
        · rw [M.cop (by omega), M.cop (by omega), M.cop (by omega), M.cop (by omega)]
        · rw [M.cop (by omega), M.cop (by omega), M.cop (by omega), World.cell?_setCell_same _ _ _ g0]; rfl
        · rw [M.cop (by omega), M.cop (by omega), World.cell?_setCell_same _ _ _ ((M.cop (by omega)).trans g1)]; rfl
        · rw [M.cop (by omega), World.cell?_setCell_same _ _ _ ((M.cop (by omega)).trans ((M.cop (by omega)).trans g2))]; rfl
        · rw [World.cell?_setCell_same _ _ _ ((M.cop (by omega)).trans ((M.cop (by omega)).trans ((M.cop (by omega)).trans g3)))]; rfl
      have HR2 := M.hl ((((HRr.out.setCell (i * 4) (.int .i64 (K : Int))).setCell (i * 4 + 1) (.int .i64 ((K : Int) + 1))).setCell (i * 4 + 2) (.int .i64 ((K : Int) + 2))).setCell (i * 4 + 3) (.int .i64 ((K : Int) + 3)))
      have HG2 := M.hl (M.grp1 (o := i * 4 + 3) (v := .int .i64 ((K : Int) + 3)) (M.grp1 (o := i * 4 + 2) (v := .int .i64 ((K : Int) + 2)) (M.grp1 (o := i * 4 + 1) (v := .int .i64 ((K : Int) + 1)) (M.grp1 (o := i * 4) (v := .int .i64 (K : Int)) HGr.out))))
      have hKn : K + 4 ≤ 50000000 := by have := HK.out; omega
      go_wp2
      go_roundw
      case rel => exact ⟨i + 1, K + 4, by go_num, by go_num, by omega, hKn, by show _ = _; have := HK.out; omega, HS2, HR2, HG2⟩
      case measure => simp [intOf]; omega
    · obtain rfl : i = n := by omega
      have HKK : Hid ((K : Int) = ((k + 4 * i : Nat) : Int)) := by show _ = _; rw [HK.out]
      go_wp2
      go_ret
      exact ⟨by rw [HKK.out]; rfl, HSr.out, HRr.out, HGr.out⟩
theorem markPartS_own (w : World) (base : Nat) (v : Value) (ps : List M.PartD) (k : Nat) (h : M.OwnPt w base v ps) (hl : ps.length ≤ 1048576) (hk1 : 1 ≤ k) (hk : k ≤ 40000000) :
    Calls Try.prog 84 #[v, .int .i64 (k : Int)] w fun e w' => e = .returned (.int .i64 ((k + 4 * ps.length : Nat) : Int)) ∧ M.OwnPt w' base v (M.ptmarks ps.length k) ∧ w.grownBy w' v.ownBlock := by
  obtain ⟨hl0, ⟨rfl, h0⟩ | ⟨g, cap, cur, rfl, hb, hh, hn, hc, hz, ht⟩⟩ := h
  · rw [h0]
    go_enter Try.func84, Try.ntmps84
    go_wp2
    go_loopw [1, 5] (fun x y wr => x = .int .i64 (k : Int) ∧ y = .int .i64 0 ∧ w = wr) (fun _ _ _ => 0)
    case atStart => exact ⟨rfl, rfl, rfl⟩
    case round =>
      obtain ⟨rfl, rfl, rfl⟩ := hrel
      go_wp2
      go_ret
      exact ⟨rfl, M.OwnPt.nil _ _, World.grownBy.refl _ _⟩
  · refine (markPartS_at w g ps.length cap (cap * 4) k ⟨cur, hh, hz⟩ (Nat.mul_le_mul_right 4 hn) hl hk1 hk).mono ?_
    rintro e w' ⟨rfl, hat, ⟨cur', hh', hz'⟩, hg⟩
    refine ⟨rfl, ⟨by rw [M.cellsPt_len], .inr ⟨g, cap, cur', by rw [M.ptmarks_len], hb, hh', by rw [M.ptmarks_len]; exact hn, hc, hz', ?_⟩⟩, hg⟩
    apply List.ext_getElem?
    intro t
    rw [M.ptmarks_len]
    by_cases h : t < ps.length * 4
    · rw [List.getElem?_take_of_lt h]
      have hl2 : t / 4 < (M.ptmarks ps.length k).length := by rw [M.ptmarks_len]; omega
      obtain ⟨c0, c1, c2, c3⟩ := hat (t / 4) hl2
      have key : ∀ c, c < 4 → cur'.toList[t / 4 * 4 + c]? = (M.ptcells ((M.ptmarks ps.length k)[t / 4]))[c]? := fun c hc4 => by
        have hcell : w'.cell? ⟨g, t / 4 * 4 + c, none⟩ = cur'.toList[t / 4 * 4 + c]? := by simp [World.cell?, hh']
        rw [← hcell]
        simp only [Nat.zero_add] at c0 c1 c2 c3
        match c, hc4 with
        | 0, _ => exact c0
        | 1, _ => exact c1
        | 2, _ => exact c2
        | 3, _ => exact c3
      have h1 := key (t % 4) (Nat.mod_lt _ (by decide))
      have h2 := M.cellsPt_get (M.ptmarks ps.length k) (t / 4) hl2 (t % 4) (Nat.mod_lt _ (by decide))
      rw [show t / 4 * 4 + t % 4 = t by omega] at h1 h2
      rw [h1, h2]
    · rw [List.getElem?_eq_none (by rw [List.length_take]; exact Nat.le_trans (Nat.min_le_left _ _) (by omega)), List.getElem?_eq_none (by rw [M.cellsPt_len, M.ptmarks_len]; omega)]

set_option maxRecDepth 100000 in
set_option maxHeartbeats 3200000 in
theorem heldPartS_at (w : World) (a : Option Addr) (n cap k : Nat) (h : M.Pts w a n cap (M.ptmarks n k)) (hl : n ≤ 1048576) (hk1 : 1 ≤ k) (hk : k ≤ 40000000) :
    Calls Try.prog 85 #[.slice a n cap, .int .i64 (k : Int)] w fun e w' => e = .returned (.int .i64 ((k + 4 * n : Nat) : Int)) ∧ w = w' := by
  have HF := M.hl h
  clear h
  go_enter Try.func85, Try.ntmps85
  go_wp2
  go_loop [1, 5] (fun x y => ∃ (i K : Nat), x = .int .i64 (K : Int) ∧ y = .int .i64 i ∧ i ≤ n ∧ K ≤ 50000000 ∧ Hid (K = k + 4 * i)) (fun _ y => n - (intOf y).toNat)
  case atStart => exact ⟨0, k, rfl, rfl, Nat.zero_le _, by omega, rfl⟩
  case round =>
    obtain ⟨i, K, rfl, rfl, hi, hK3, HK⟩ := hrel
    by_cases hlt : i < n
    · obtain ⟨-, -, -, hfa⟩ := HF.out
      obtain ⟨b, off, rfl, hat⟩ := hfa (by omega)
      obtain ⟨c0, c1, c2, c3⟩ := hat i (by rw [M.ptmarks_len]; exact hlt)
      rw [M.ptmarks_at, ← HK.out] at c0 c1 c2 c3
      unfold M.ptmark at c0 c1 c2 c3
      simp only at c0 c1 c2 c3
      have d0 : ((K : Int) != (K : Int)) = false := by simp
      have d1 : (((K : Int) + 1) != ((K : Int) + 1)) = false := by simp
      have d2 : (((K : Int) + 2) != ((K : Int) + 2)) = false := by simp
      have d3 : (((K : Int) + 3) != ((K : Int) + 3)) = false := by simp
      have hKn : K + 4 ≤ 50000000 := by have := HK.out; omega
      clear hat hfa
      go_wp2
      go_round
      case rel => exact ⟨i + 1, K + 4, by go_num, by go_num, by omega, hKn, by show _ = _; have := HK.out; omega⟩
      case measure => simp [intOf]; omega
    · obtain rfl : i = n := by omega
      have HKK : Hid ((K : Int) = ((k + 4 * i : Nat) : Int)) := by show _ = _; rw [HK.out]
      go_wp2
      go_ret
      exact ⟨by rw [HKK.out]; rfl, rfl⟩
theorem heldPartS_own (w : World) (base : Nat) (v : Value) (n k : Nat) (h : M.OwnPt w base v (M.ptmarks n k)) (hl : n ≤ 1048576) (hk1 : 1 ≤ k) (hk : k ≤ 40000000) :
    Calls Try.prog 85 #[v, .int .i64 (k : Int)] w fun e w' => e = .returned (.int .i64 ((k + 4 * n : Nat) : Int)) ∧ w = w' := by
  obtain ⟨a, cap, rfl, hv⟩ := h.pts
  rw [M.ptmarks_len] at hv ⊢
  exact heldPartS_at w a n cap k hv hl hk1 hk
end Go.Proofs.Ytpokcbcffijheab
