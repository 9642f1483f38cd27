/-
  What the laws' helpers on rows of parts do: eqPartS, markPartS, heldPartS.
-/
import Derived.Test.YtappficbjjkmiaaPart9
import Derived.Test.YtappficbjjkmiaaPart6
import Derived.Test.YtappficbjjkmiaaRows
import Derived.WalkLawsBesides
import Derived.Deep.RegionWith
import Derived.WalkKit
import Derived.WalkSpells
namespace Go.Proofs.Ytappficbjjkmiaa
open Go.RowKit

set_option maxRecDepth 100000 in
set_option maxHeartbeats 800000 in
theorem eqPart_same (q l s c : Int) (w : World) :
    Calls Try.prog 72 #[.agg #[.int .i64 q, .int .i64 l, .int .i64 s, .int .i64 c], .agg #[.int .i64 q, .int .i64 l, .int .i64 s, .int .i64 c]] w fun e w' => e = .returned (.bool true) ∧ Below w.heap.size w w' := by
  have HB : Hid (∀ o1 o2, Below w.heap.size w ((w.alloc o1).alloc o2)) := fun o1 o2 => ((Below.refl _ _).alloc (Nat.le_refl _) _).alloc (by simp) _
  go_enter Try.func72, Try.ntmps72
  go_wp2
  go_ret
  exact ⟨rfl, HB.out _ _⟩

set_option maxRecDepth 100000 in
set_option maxHeartbeats 1600000 in
theorem eqPartS_same (w : World) (a a' : Option Addr) (len cap len' cap' : Nat) (ps : List M.PartD) (h : M.Pts w a len cap ps) (h' : M.Pts w a' len' cap' ps) :
    Calls Try.prog 37 #[.slice a len cap, .slice a' len' cap'] w fun e w' => e = .returned (.bool true) ∧ Below w.heap.size w w' := by
  have hlm : len ≤ 9223372036854775807 := by obtain ⟨_, h1, h2, _⟩ := h; unfold maxLen at h2; omega
  have HF := M.hl h
  have HG := M.hl h'
  obtain rfl : len = len' := by rw [h.1, h'.1]
  clear h h'
  have d0 : ((len : Int) != (len : Int)) = false := by simp
  go_enter Try.func37, Try.ntmps37
  go_wp2
  go_loopw [5] (fun i wr => ∃ k : Nat, i = .int .i64 k ∧ k ≤ len ∧ Hid (Below w.heap.size w wr)) (fun i _ => len - (intOf i).toNat)
  case atStart => exact ⟨0, rfl, Nat.zero_le _, Below.refl _ _⟩
  case round =>
    obtain ⟨k, rfl, hk, HBr⟩ := hrel
    by_cases hlt : k < len
    · obtain ⟨hfl, _, _, hfa⟩ := HF.out.below HBr.out
      obtain ⟨b, off, rfl, hat⟩ := hfa (by omega)
      obtain ⟨c0, c1, c2, c3⟩ := hat k (by omega)
      obtain ⟨hfl', _, _, hfa'⟩ := HG.out.below HBr.out
      obtain ⟨b', off', rfl, hat'⟩ := hfa' (by omega)
      obtain ⟨e0, e1, e2, e3⟩ := hat' k (by omega)
      generalize ps[k]'(by omega) = f at c0 c1 c2 c3 e0 e1 e2 e3
      clear hat hfa hfl hat' hfa' hfl'
      have HQ := M.hl (fun W => eqPart_same f.q f.l f.s f.c W)
      go_wp2_with fail
      go_region_with (go_at_call 72; refine (HQ.out _).mono ?_; rintro e w2 ⟨rfl, hb2⟩)
      all_goals
        go_wp2
        go_roundw
        case rel => exact ⟨k + 1, by go_num, by omega, HBr.out.trans ((show Below wr.heap.size wr w2 from ⟨hb2.os, hb2.tape, hb2.output, hb2.size, hb2.block⟩).mono HBr.out.size)⟩
        case measure => simp [intOf]; omega
    · go_wp2
      go_ret
      exact ⟨rfl, HBr.out⟩

/-- The part of the marks from a number on. -/
def M.ptmark (k : Nat) : M.PartD := ⟨(k : Int), (k : Int) + 1, (k : Int) + 2, (k : Int) + 3⟩
def M.ptmarks (n k : Nat) : List M.PartD := (List.range n).map fun i => M.ptmark (k + 4 * i)
theorem M.ptmarks_len (n k : Nat) : (M.ptmarks n k).length = n := by simp [M.ptmarks]
theorem M.ptmarks_snoc (n k : Nat) : M.ptmarks (n + 1) k = M.ptmarks n k ++ [M.ptmark (k + 4 * n)] := by simp [M.ptmarks, List.range_succ]
theorem M.ptmarks_at {n k i : Nat} (h : i < (M.ptmarks n k).length) : (M.ptmarks n k)[i] = M.ptmark (k + 4 * i) := by simp [M.ptmarks]
theorem M.PtsAt.snoc {w W : World} {H k : Nat} {ps : List M.PartD} {p : M.PartD} (h : M.PtsAt w H 0 ps) (hk : ps.length = k) (hold : ∀ j, j < k * 4 → W.cell? ⟨H, j, none⟩ = w.cell? ⟨H, j, none⟩) (h0 : W.cell? ⟨H, k * 4, none⟩ = some (.int .i64 p.q)) (h1 : W.cell? ⟨H, k * 4 + 1, none⟩ = some (.int .i64 p.l)) (h2 : W.cell? ⟨H, k * 4 + 2, none⟩ = some (.int .i64 p.s)) (h3 : W.cell? ⟨H, k * 4 + 3, none⟩ = some (.int .i64 p.c)) :
    M.PtsAt W H 0 (ps ++ [p]) := by
  intro i hi
  rw [List.length_append] at hi
  simp only [Nat.zero_add]
  by_cases e : i = k
  · subst e
    have : (ps ++ [p])[i] = p := by simp [← hk]
    rw [this]
    exact ⟨h0, h1, h2, h3⟩
  · have hi' : i < ps.length := by simp at hi; omega
    rw [List.getElem_append_left hi']
    obtain ⟨g0, g1, g2, g3⟩ := h i hi'
    simp only [Nat.zero_add] at g0 g1 g2 g3
    exact ⟨(hold _ (by omega)).trans g0, (hold _ (by omega)).trans g1, (hold _ (by omega)).trans g2, (hold _ (by omega)).trans g3⟩
theorem M.cop {W : World} {H i j : Nat} {v : Value} (h : i ≠ j) : (W.setCell ⟨H, i, none⟩ v).cell? ⟨H, j, none⟩ = W.cell? ⟨H, j, none⟩ := World.cell?_setCell_other _ _ _ _ (by intro e; simp only [Addr.mk.injEq] at e; omega)
theorem M.grp1 {w W : World} {g o : Nat} {v : Value} (h : w.grownBy W (some g)) : w.grownBy (W.setCell ⟨g, o, none⟩ v) (some g) :=
  ⟨h.os, h.tape, h.output, by have := h.size; simp [World.setCell]; omega, fun k hk hne => by
    rw [Below.heap_setCell W ⟨g, o, none⟩ v k (fun e => hne (by rw [e]))]; exact h.block k hk hne⟩

set_option maxRecDepth 100000 in
set_option maxHeartbeats 3200000 in
theorem markPartS_at (w : World) (g n cap N k : Nat) (hr : M.Row w g 47 N) (hN : n * 4 ≤ N) (hl : n ≤ 1048576) (hk1 : 1 ≤ k) (hk : k ≤ 40000000) :
    Calls Try.prog 38 #[.slice (some ⟨g, 0, none⟩) n cap, .int .i64 (k : Int)] w fun e w' => e = .returned (.int .i64 ((k + 4 * n : Nat) : Int)) ∧ M.PtsAt w' g 0 (M.ptmarks n k) ∧ M.Row w' g 47 N ∧ w.grownBy w' (some g) := by
  have HR := M.hl hr
  clear hr
  go_enter Try.func38, Try.ntmps38
  go_wp2
  go_loopw [1, 5] (fun x y wr => ∃ (i K : Nat), x = .int .i64 (K : Int) ∧ y = .int .i64 i ∧ i ≤ n ∧ K ≤ 50000000 ∧ Hid (K = k + 4 * i) ∧ Hid (M.PtsAt wr g 0 (M.ptmarks i k)) ∧ Hid (M.Row wr g 47 N) ∧ Hid (w.grownBy wr (some g))) (fun _ y _ => n - (intOf y).toNat)
  case atStart => exact ⟨0, k, rfl, rfl, Nat.zero_le _, by omega, rfl, fun i hi => by simp [M.ptmarks] at hi, HR, World.grownBy.refl _ _⟩
  case round =>
    obtain ⟨i, K, rfl, rfl, hi, hK3, HK, HSr, HRr, HGr⟩ := hrel
    by_cases hlt : i < n
    · obtain ⟨v0, g0⟩ := HRr.out.cell (i := i * 4) (by omega)
      obtain ⟨v1, g1⟩ := HRr.out.cell (i := i * 4 + 1) (by omega)
      obtain ⟨v2, g2⟩ := HRr.out.cell (i := i * 4 + 2) (by omega)
      obtain ⟨v3, g3⟩ := HRr.out.cell (i := i * 4 + 3) (by omega)
      have fr := HRr.out.free
      have HS2 : Hid (M.PtsAt ((((wr.setCell ⟨g, i * 4, none⟩ (.int .i64 (K : Int))).setCell ⟨g, i * 4 + 1, none⟩ (.int .i64 ((K : Int) + 1))).setCell ⟨g, i * 4 + 2, none⟩ (.int .i64 ((K : Int) + 2))).setCell ⟨g, i * 4 + 3, none⟩ (.int .i64 ((K : Int) + 3))) g 0 (M.ptmarks (i + 1) k)) := by
        show M.PtsAt _ _ _ _
        rw [M.ptmarks_snoc, ← HK.out]
        refine HSr.out.snoc (M.ptmarks_len i k) (fun j hj => ?_) ?_ ?_ ?_ ?_
        · rw [M.cop (by omega), M.cop (by omega), M.cop (by omega), M.cop (by omega)]
        · rw [M.cop (by omega), M.cop (by omega), M.cop (by omega), World.cell?_setCell_same _ _ _ g0]; rfl
        · rw [M.cop (by omega), M.cop (by omega), World.cell?_setCell_same _ _ _ ((M.cop (by omega)).trans g1)]; rfl
        · rw [M.cop (by omega), World.cell?_setCell_same _ _ _ ((M.cop (by omega)).trans ((M.cop (by omega)).trans g2))]; rfl
        · rw [World.cell?_setCell_same _ _ _ ((M.cop (by omega)).trans ((M.cop (by omega)).trans ((M.cop (by omega)).trans g3)))]; rfl
      have HR2 := M.hl ((((HRr.out.setCell (i * 4) (.int .i64 (K : Int))).setCell (i * 4 + 1) (.int .i64 ((K : Int) + 1))).setCell (i * 4 + 2) (.int .i64 ((K : Int) + 2))).setCell (i * 4 + 3) (.int .i64 ((K : Int) + 3)))
      have HG2 := M.hl (M.grp1 (o := i * 4 + 3) (v := .int .i64 ((K : Int) + 3)) (M.grp1 (o := i * 4 + 2) (v := .int .i64 ((K : Int) + 2)) (M.grp1 (o := i * 4 + 1) (v := .int .i64 ((K : Int) + 1)) (M.grp1 (o := i * 4) (v := .int .i64 (K : Int)) HGr.out))))
      have hKn : K + 4 ≤ 50000000 := by have := HK.out; omega
      go_wp2
      go_roundw
      case rel => exact ⟨i + 1, K + 4, by go_num, by go_num, by omega, hKn, by show _ = _; have := HK.out; omega, HS2, HR2, HG2⟩
      case measure => simp [intOf]; omega
    · obtain rfl : i = n := by omega
      have HKK : Hid ((K : Int) = ((k + 4 * i : Nat) : Int)) := by show _ = _; rw [HK.out]
      go_wp2
      go_ret
      exact ⟨by rw [HKK.out]; rfl, HSr.out, HRr.out, HGr.out⟩
theorem markPartS_own (w : World) (base : Nat) (v : Value) (ps : List M.PartD) (k : Nat) (h : M.OwnPt w base v ps) (hl : ps.length ≤ 1048576) (hk1 : 1 ≤ k) (hk : k ≤ 40000000) :
    Calls Try.prog 38 #[v, .int .i64 (k : Int)] w fun e w' => e = .returned (.int .i64 ((k + 4 * ps.length : Nat) : Int)) ∧ M.OwnPt w' base v (M.ptmarks ps.length k) ∧ w.grownBy w' v.ownBlock := by
  obtain ⟨hl0, ⟨rfl, h0⟩ | ⟨g, cap, cur, rfl, hb, hh, hn, hc, hz, ht⟩⟩ := h
  · rw [h0]
    go_enter Try.func38, Try.ntmps38
    go_wp2
    go_loopw [1, 5] (fun x y wr => x = .int .i64 (k : Int) ∧ y = .int .i64 0 ∧ w = wr) (fun _ _ _ => 0)
    case atStart => exact ⟨rfl, rfl, rfl⟩
    case round =>
      obtain ⟨rfl, rfl, rfl⟩ := hrel
      go_wp2
      go_ret
      exact ⟨rfl, M.OwnPt.nil _ _, World.grownBy.refl _ _⟩
  · refine (markPartS_at w g ps.length cap (cap * 4) k ⟨cur, hh, hz⟩ (Nat.mul_le_mul_right 4 hn) hl hk1 hk).mono ?_
    rintro e w' ⟨rfl, hat, ⟨cur', hh', hz'⟩, hg⟩
    refine ⟨rfl, ⟨by rw [M.cellsPt_len], .inr ⟨g, cap, cur', by rw [M.ptmarks_len], hb, hh', by rw [M.ptmarks_len]; exact hn, hc, hz', ?_⟩⟩, hg⟩
    apply List.ext_getElem?
    intro t
    rw [M.ptmarks_len]
    by_cases h : t < ps.length * 4
    · rw [List.getElem?_take_of_lt h]
      have hl2 : t / 4 < (M.ptmarks ps.length k).length := by rw [M.ptmarks_len]; omega
      obtain ⟨c0, c1, c2, c3⟩ := hat (t / 4) hl2
      have key : ∀ c, c < 4 → cur'.toList[t / 4 * 4 + c]? = (M.ptcells ((M.ptmarks ps.length k)[t / 4]))[c]? := fun c hc4 => by
        have hcell : w'.cell? ⟨g, t / 4 * 4 + c, none⟩ = cur'.toList[t / 4 * 4 + c]? := by simp [World.cell?, hh']
        rw [← hcell]
        simp only [Nat.zero_add] at c0 c1 c2 c3
        match c, hc4 with
        | 0, _ => exact c0
        | 1, _ => exact c1
        | 2, _ => exact c2
        | 3, _ => exact c3
      have h1 := key (t % 4) (Nat.mod_lt _ (by decide))
      have h2 := M.cellsPt_get (M.ptmarks ps.length k) (t / 4) hl2 (t % 4) (Nat.mod_lt _ (by decide))
      rw [show t / 4 * 4 + t % 4 = t by omega] at h1 h2
      rw [h1, h2]
    · rw [List.getElem?_eq_none (by rw [List.length_take]; exact Nat.le_trans (Nat.min_le_left _ _) (by omega)), List.getElem?_eq_none (by rw [M.cellsPt_len, M.ptmarks_len]; omega)]

set_option maxRecDepth 100000 in
set_option maxHeartbeats 3200000 in
theorem heldPartS_at (w : World) (a : Option Addr) (n cap k : Nat) (h : M.Pts w a n cap (M.ptmarks n k)) (hl : n ≤ 1048576) (hk1 : 1 ≤ k) (hk : k ≤ 40000000) :
    Calls Try.prog 70 #[.slice a n cap, .int .i64 (k : Int)] w fun e w' => e = .returned (.int .i64 ((k + 4 * n : Nat) : Int)) ∧ w = w' := by
  have HF := M.hl h
  clear h
  go_enter Try.func70, Try.ntmps70
  go_wp2
  go_loop [1, 5] (fun x y => ∃ (i K : Nat), x = .int .i64 (K : Int) ∧ y = .int .i64 i ∧ i ≤ n ∧ K ≤ 50000000 ∧ Hid (K = k + 4 * i)) (fun _ y => n - (intOf y).toNat)
  case atStart => exact ⟨0, k, rfl, rfl, Nat.zero_le _, by omega, rfl⟩
  case round =>
    obtain ⟨i, K, rfl, rfl, hi, hK3, HK⟩ := hrel
    by_cases hlt : i < n
    · obtain ⟨-, -, -, hfa⟩ := HF.out
      obtain ⟨b, off, rfl, hat⟩ := hfa (by omega)
      obtain ⟨c0, c1, c2, c3⟩ := hat i (by rw [M.ptmarks_len]; exact hlt)
      rw [M.ptmarks_at, ← HK.out] at c0 c1 c2 c3
      unfold M.ptmark at c0 c1 c2 c3
      simp only at c0 c1 c2 c3
      have d0 : ((K : Int) != (K : Int)) = false := by simp
      have d1 : (((K : Int) + 1) != ((K : Int) + 1)) = false := by simp
      have d2 : (((K : Int) + 2) != ((K : Int) + 2)) = false := by simp
      have d3 : (((K : Int) + 3) != ((K : Int) + 3)) = false := by simp
      have hKn : K + 4 ≤ 50000000 := by have := HK.out; omega
      clear hat hfa
      go_wp2
      go_round
      case rel => exact ⟨i + 1, K + 4, by go_num, by go_num, by omega, hKn, by show _ = _; have := HK.out; omega⟩
      case measure => simp [intOf]; omega
    · obtain rfl : i = n := by omega
      have HKK : Hid ((K : Int) = ((k + 4 * i : Nat) : Int)) := by show _ = _; rw [HK.out]
      go_wp2
      go_ret
      exact ⟨by rw [HKK.out]; rfl, rfl⟩
theorem heldPartS_own (w : World) (base : Nat) (v : Value) (n k : Nat) (h : M.OwnPt w base v (M.ptmarks n k)) (hl : n ≤ 1048576) (hk1 : 1 ≤ k) (hk : k ≤ 40000000) :
    Calls Try.prog 70 #[v, .int .i64 (k : Int)] w fun e w' => e = .returned (.int .i64 ((k + 4 * n : Nat) : Int)) ∧ w = w' := by
  obtain ⟨a, cap, rfl, hv⟩ := h.pts
  rw [M.ptmarks_len] at hv ⊢
  exact heldPartS_at w a n cap k hv hl hk1 hk
end Go.Proofs.Ytappficbjjkmiaa

/-
  What the laws' helpers on rows of parts do: szPartS, toPart, toPartS; an argument that is a slice of parts, opened.
-/
namespace Go.Proofs.Ytappficbjjkmiaa
open Go.ChangeShapes Go.WideShapes Go.Deep Go.RowKit

theorem Try.infoPt : (Try.prog.info? 47).map (fun i => (i.zero, i.size, i.bytes)) = some (some (.agg #[.int .i64 0, .int .i64 0, .int .i64 0, .int .i64 0]), 4, 32) := by kernel_rfl

def M.pok (p : M.PartD) : Prop := (-9223372036854775808 ≤ p.q ∧ p.q ≤ 9223372036854775807) ∧ (-9223372036854775808 ≤ p.l ∧ p.l ≤ 9223372036854775807) ∧ (-9223372036854775808 ≤ p.s ∧ p.s ≤ 9223372036854775807) ∧ (-9223372036854775808 ≤ p.c ∧ p.c ≤ 9223372036854775807)
theorem M.Pts.max {w : World} {a : Option Addr} {len cap : Nat} {ps : List M.PartD} (h : M.Pts w a len cap ps) : len ≤ 9223372036854775807 := by
  obtain ⟨_, h1, h2, _⟩ := h; unfold maxLen at h2; omega

set_option maxHeartbeats 400000 in
theorem szPartS_any (w : World) (a : Option Addr) (len cap : Nat) (left : Int) (hlm : len ≤ 9223372036854775807) (h0 : 0 ≤ left) (h1 : left ≤ 1048576) :
    Calls Try.prog 35 #[.slice a len cap, .int .i64 left] w fun e w' => ∃ v : Int, e = .returned (.int .i64 v) ∧ (0 ≤ v → v + len ≤ left) ∧ v ≤ left ∧ w = w' := by
  by_cases hl : left - len < 0
  · go_enter Try.func35, Try.ntmps35
    go_wp2
    go_ret
    exact ⟨-1, rfl, fun h => by omega, by omega, rfl⟩
  · go_enter Try.func35, Try.ntmps35
    go_wp2
    go_ret
    exact ⟨_, rfl, fun _ => by omega, by omega, rfl⟩

set_option maxRecDepth 100000 in
set_option maxHeartbeats 800000 in
theorem toPart_any (q l s c : Int) (w : World) :
    Calls Try.prog 71 #[.agg #[.int .i64 q, .int .i64 l, .int .i64 s, .int .i64 c]] w fun e w' => e = .returned (.agg #[.int .i64 q, .int .i64 l, .int .i64 s, .int .i64 c]) ∧ Below w.heap.size w w' := by
  go_enter Try.func71, Try.ntmps71
  go_wp2
  refine bodyPost_ret (v := .agg #[.int .i64 q, .int .i64 l, .int .i64 s, .int .i64 c]) (by simp [results, Try.results71, go_sem]) rfl ⟨rfl, ?_⟩
  exact (((Below.refl _ _).alloc (Nat.le_refl _) _).alloc (by simp) _).alloc (by simp; omega) _

set_option maxRecDepth 100000 in
set_option maxHeartbeats 1600000 in
theorem toPartS_row (w : World) (a : Option Addr) (len cap : Nat) (ms : List M.PartD) (h : M.Pts w a len cap ms) (hlen : len ≤ 1048576) :
    Calls Try.prog 36 #[.slice a len cap] w fun e w' => e = .returned (.slice (some ⟨w.heap.size, 0, none⟩) len len) ∧ M.PtsAt w' w.heap.size 0 ms ∧ M.Row w' w.heap.size 47 (len * 4) ∧ Below w.heap.size w w' := by
  obtain ⟨i0, hi, hz0, hz1, hz2⟩ := info_parts Try.infoPt
  have HF : Hid (M.Pts w a len cap ms) := h
  clear h
  go_enter Try.func36, Try.ntmps36
  go_wp2_with (at_make; refine wpList_make_full _ rfl (.tmp 6) (.tmp 6) 27 rfl w.heap.size 47 i0 _ 4 Try.underlying27 hi hz0 hz1 .i64 .i64 _ _ len rfl rfl rfl rfl ?c3 ?c4 ?c5 ?_)
  case c3 => rw [hz2]; omega
  case c4 => unfold maxLen; omega
  case c5 => exact Nat.le_refl _
  intro w1 hown hgrow
  have hrow : M.Row w1 w.heap.size 47 (len * 4) := by
    obtain ⟨hl, h | ⟨g, cp, cur, hv, hb, hh, hn, hc, hz, ht⟩⟩ := hown
    · simp at h
    · simp only [Value.slice.injEq, Option.some.injEq, Addr.mk.injEq] at hv
      obtain ⟨⟨rfl, _, _⟩, _, rfl⟩ := hv
      exact ⟨cur, hh, hz⟩
  have hb1 : Below w.heap.size w w1 := ⟨hgrow.os, hgrow.tape, hgrow.output, hgrow.size, fun k hk => hgrow.block k hk (by simp)⟩
  have HROW : Hid (M.Row w1 w.heap.size 47 (len * 4)) := hrow
  have HB1 : Hid _ := hb1
  clear hown hgrow hrow hb1
  go_wp2
  go_loopw [4] (fun i wr => ∃ k : Nat, i = .int .i64 k ∧ k ≤ len ∧ Hid (M.Row wr w.heap.size 47 (len * 4)) ∧ Hid (M.PtsAt wr w.heap.size 0 (ms.take k)) ∧ Hid (Below w.heap.size w wr)) (fun i _ => len - (intOf i).toNat)
  case atStart => exact ⟨0, rfl, Nat.zero_le _, HROW, fun i hi => by simp at hi, HB1⟩
  case round =>
    obtain ⟨k, rfl, hk, HRr, HFr, HBr⟩ := hrel
    by_cases hlt : k < len
    · obtain ⟨hfl, _, _, hfa⟩ := HF.out.below HBr.out
      obtain ⟨b, off, rfl, hat⟩ := hfa (by omega)
      obtain ⟨c0, c1, c2, c3⟩ := hat k (by omega)
      have hfk := List.getElem?_eq_getElem (l := ms) (i := k) (by omega)
      generalize ms[k]'(by omega) = f at c0 c1 c2 c3 hfk
      have HFK : Hid (ms[k]? = some f) := hfk
      have HLN : Hid (len = ms.length) := hfl
      clear hfk hat hfa hfl
      have HT := M.hl (toPart_any f.q f.l f.s f.c)
      go_wp2_with fail
      refine (HT.out _).mono ?_
      rintro e w2 ⟨rfl, hb2⟩
      have hblk := hb2.block w.heap.size HRr.out.lt
      have hR2 := HRr.out.of_block hblk
      have hF2 := HFr.out.of_block hblk
      have HR2 : Hid (M.Row w2 w.heap.size 47 (len * 4)) := hR2
      have HF2 : Hid (M.PtsAt w2 w.heap.size 0 (ms.take k)) := hF2
      have HB2 : Hid (Below w.heap.size w w2) := HBr.out.trans (hb2.mono HBr.out.size)
      obtain ⟨v0, g0⟩ := hR2.cell (i := k * 4) (by omega)
      obtain ⟨v1, g1⟩ := hR2.cell (i := k * 4 + 1) (by omega)
      obtain ⟨v2, g2⟩ := hR2.cell (i := k * 4 + 2) (by omega)
      obtain ⟨v3, g3⟩ := hR2.cell (i := k * 4 + 3) (by omega)
      have G0 := M.hl g0
      have G1 := M.hl g1
      have G2 := M.hl g2
      have G3 := M.hl g3
      have fr := hR2.free
      clear hb2 hblk hR2 hF2 c0 c1 c2 c3
      go_wp2
      go_roundw
      case rel =>
        refine ⟨k + 1, by go_num, by omega, (((HR2.out.setCell _ _).setCell _ _).setCell _ _).setCell _ _, ?_, ?_⟩
        · show M.PtsAt _ _ _ _
          have e : ms.take (k + 1) = ms.take k ++ [f] := by rw [List.take_add_one, HFK.out]; rfl
          rw [e]
          refine M.PtsAt.snoc (k := k) HF2.out (by rw [List.length_take]; have := HLN.out; omega) (fun j hj => ?_) ?_ ?_ ?_ ?_
          · rw [M.cop (by omega), M.cop (by omega), M.cop (by omega), M.cop (by omega)]
          · rw [M.cop (by omega), M.cop (by omega), M.cop (by omega), World.cell?_setCell_same _ _ _ G0.out]
          · rw [M.cop (by omega), M.cop (by omega), World.cell?_setCell_same _ _ _ ((M.cop (by omega)).trans G1.out)]
          · rw [M.cop (by omega), World.cell?_setCell_same _ _ _ ((M.cop (by omega)).trans ((M.cop (by omega)).trans G2.out))]
          · rw [World.cell?_setCell_same _ _ _ ((M.cop (by omega)).trans ((M.cop (by omega)).trans ((M.cop (by omega)).trans G3.out)))]
        · exact ((((HB2.out.setCell (by exact Nat.le_refl _) _).setCell (by exact Nat.le_refl _) _).setCell (by exact Nat.le_refl _) _).setCell (by exact Nat.le_refl _) _)
      case measure => simp [intOf]; omega
    · have hall : ms.take k = ms := List.take_of_length_le (by have := HF.out.1; omega)
      have HF3 : Hid (M.PtsAt wr w.heap.size 0 ms) := by have := HFr.out; rw [hall] at this; exact this
      clear hall
      go_wp2
      go_ret
      exact ⟨rfl, HF3.out, HRr.out, HBr.out⟩
/-- The same parts in a row of the call's own. -/
theorem M.ownPt_of {w : World} {g n base : Nat} {ms : List M.PartD} (hat : M.PtsAt w g 0 ms) (hr : M.Row w g 47 (n * 4)) (hn : n = ms.length) (hb : base ≤ g) (hm : n ≤ maxLen) : M.OwnPt w base (.slice (some ⟨g, 0, none⟩) n n) ms := by
  subst hn
  obtain ⟨cur, hh, hz⟩ := hr
  refine ⟨M.cellsPt_len ms, .inr ⟨g, ms.length, cur, rfl, hb, hh, Nat.le_refl _, hm, hz, ?_⟩⟩
  apply List.ext_getElem?
  intro t
  by_cases h : t < ms.length * 4
  · rw [List.getElem?_take_of_lt h]
    have hl2 : t / 4 < ms.length := by omega
    obtain ⟨c0, c1, c2, c3⟩ := hat (t / 4) hl2
    simp only [Nat.zero_add] at c0 c1 c2 c3
    have key : ∀ c, c < 4 → cur.toList[t / 4 * 4 + c]? = (M.ptcells (ms[t / 4]))[c]? := fun c hc4 => by
      have hcell : w.cell? ⟨g, t / 4 * 4 + c, none⟩ = cur.toList[t / 4 * 4 + c]? := by simp [World.cell?, hh]
      rw [← hcell]
      match c, hc4 with
      | 0, _ => exact c0
      | 1, _ => exact c1
      | 2, _ => exact c2
      | 3, _ => exact c3
    have h1 := key (t % 4) (Nat.mod_lt _ (by decide))
    have h2 := M.cellsPt_get ms (t / 4) hl2 (t % 4) (Nat.mod_lt _ (by decide))
    rw [show t / 4 * 4 + t % 4 = t by omega] at h1 h2
    rw [h1, h2]
  · rw [List.getElem?_eq_none (by rw [List.length_take]; exact Nat.le_trans (Nat.min_le_left _ _) (by omega)), List.getElem?_eq_none (by rw [M.cellsPt_len]; omega)]
theorem toPartS_any (w : World) (a : Option Addr) (len cap : Nat) (ms : List M.PartD) (h : M.Pts w a len cap ms) (hlen : len ≤ 1048576) :
    Calls Try.prog 36 #[.slice a len cap] w fun e w' => ∃ b, e = .returned (.slice (some ⟨b, 0, none⟩) len len) ∧ M.OwnPt w' w.heap.size (.slice (some ⟨b, 0, none⟩) len len) ms ∧ w.heap.size ≤ b ∧ b < w'.heap.size ∧ Below w.heap.size w w' := by
  refine (toPartS_row w a len cap ms h hlen).mono ?_
  rintro e w' ⟨rfl, hat, hr, hb⟩
  exact ⟨_, rfl, M.ownPt_of hat hr h.1 (Nat.le_refl _) (by unfold maxLen; omega), Nat.le_refl _, hr.lt, hb⟩
theorem M.OwnPt.at_slice {w : World} {base n c : Nat} {a : Option Addr} {ms : List M.PartD} (h : M.OwnPt w base (.slice a n c) ms) : M.Pts w a n c ms := by
  obtain ⟨a', c', e, hv⟩ := h.pts
  cases e
  exact hv

theorem M.open_parts {H : Type} {enc : TypeId × Value → H} {P : Program} {w : World} {base : Nat} {spare : Nat → Bool} {held : Bool} {t e : TypeId} {f0 f1 f2 f3 : Field} {fuel : Nat} {cs : List Value} {x : DataW H × List MemPlace}
    (ht : P.underlying t = some (.slice e)) (he : P.underlying e = some (.struct #[f0, f1, f2, f3])) (ce : P.cellsOf e = 4)
    (o0 : f0.offset = 0) (o1 : f1.offset = 1) (o2 : f2.offset = 2) (o3 : f3.offset = 3)
    (c0 : P.cellsOf f0.type = 1) (c1 : P.cellsOf f1.type = 1) (c2 : P.cellsOf f2.type = 1) (c3 : P.cellsOf f3.type = 1)
    (u0 : P.underlying f0.type = some (.int .i64)) (u1 : P.underlying f1.type = some (.int .i64)) (u2 : P.underlying f2.type = some (.int .i64)) (u3 : P.underlying f3.type = some (.int .i64))
    (h : DataW.trod enc P w base spare held fuel t cs = some x) :
    ∃ (a : Option Addr) (len cap : Nat) (ms : List M.PartD), cs = [.slice a len cap] ∧ M.Pts w a len cap ms ∧ ∀ f ∈ ms, M.pok f := by
  rcases open_slice ht h with ⟨h0, _⟩ | ⟨a, len, cap, m, n, D, Pl, rfl, hb, hl, hm, hmm, rfl, hx⟩
  · exact ⟨none, 0, 0, [], h0, ⟨rfl, Nat.le_refl _, Nat.zero_le _, fun h => absurd h (Nat.lt_irrefl _)⟩, fun f hf => by simp at hf⟩
  have hlm : len ≤ m := by rw [hmm]; split <;> omega
  have each : ∀ i, i < len → ∃ f : M.PartD, w.cell? (a.add (i * 4)) = some (.int .i64 f.q) ∧ w.cell? (a.add (i * 4 + 1)) = some (.int .i64 f.l) ∧ w.cell? (a.add (i * 4 + 2)) = some (.int .i64 f.s) ∧ w.cell? (a.add (i * 4 + 3)) = some (.int .i64 f.c) ∧ M.pok f := by
    intro i hi
    obtain ⟨cs', h1, h2⟩ := hx i (by omega)
    rw [ce] at h1
    obtain ⟨_, hlen, hcell⟩ := World.cells?_some h1
    obtain ⟨xs, k, hk, hxy, _, hxl, hf⟩ := DataW.trod_struct he h2
    match xs, hxl, cs', hlen with
    | [y0, y1, y2, y3], _, [v0, v1, v2, v3], _ =>
      have g0 := hf 0 f0 rfl
      have g1 := hf 1 f1 rfl
      have g2 := hf 2 f2 rfl
      have g3 := hf 3 f3 rfl
      simp [o0, o1, o2, o3, c0, c1, c2, c3] at g0 g1 g2 g3
      obtain ⟨x0, e0, _, hx0⟩ := DataW.trod_int u0 g0
      obtain ⟨x1, e1, _, hx1⟩ := DataW.trod_int u1 g1
      obtain ⟨x2, e2, _, hx2⟩ := DataW.trod_int u2 g2
      obtain ⟨x3, e3, _, hx3⟩ := DataW.trod_int u3 g3
      obtain rfl := List.singleton_inj.1 e0
      obtain rfl := List.singleton_inj.1 e1
      obtain rfl := List.singleton_inj.1 e2
      obtain rfl := List.singleton_inj.1 e3
      have r0 := hcell 0 (by omega)
      have r1 := hcell 1 (by omega)
      have r2 := hcell 2 (by omega)
      have r3 := hcell 3 (by omega)
      rw [add_add] at r0 r1 r2 r3
      exact ⟨⟨x0, x1, x2, x3⟩, by simpa using r0, by simpa using r1, by simpa using r2, by simpa using r3, M.wf_i64 hx0, M.wf_i64 hx1, M.wf_i64 hx2, M.wf_i64 hx3⟩
  have hin : Inhabited M.PartD := ⟨⟨0, 0, 0, 0⟩⟩
  obtain ⟨F, hF⟩ := choose_lt each
  refine ⟨some a, len, cap, (List.range len).map F, rfl, ⟨by simp, hl, hm, fun hpos => ?_⟩, fun f hf => ?_⟩
  · have hs : a.spot = none := by
      have h0 := (hF 0 hpos).1
      simp only [Nat.zero_mul, Addr.add, if_pos] at h0
      unfold World.cell? at h0
      split at h0
      · cases hq : a.spot with
        | none => rfl
        | some q => simp [hq] at h0
      · cases h0
    obtain ⟨b, off, spot⟩ := a
    simp only at hs
    subst hs
    have ad : ∀ q, (⟨b, off, none⟩ : Addr).add q = ⟨b, off + q, none⟩ := fun q => by
      unfold Addr.add
      split
      · next h => subst h; rfl
      · rfl
    refine ⟨b, off, rfl, fun i hi => ?_⟩
    have hi' : i < len := by simpa using hi
    obtain ⟨r0, r1, r2, r3, _⟩ := hF i hi'
    simp only [ad] at r0 r1 r2 r3
    simp only [List.getElem_map, List.getElem_range]
    exact ⟨r0, by simpa [Nat.add_assoc] using r1, by simpa [Nat.add_assoc] using r2, by simpa [Nat.add_assoc] using r3⟩
  · obtain ⟨i, hi, rfl⟩ := List.mem_map.1 hf
    exact (hF i (List.mem_range.1 hi)).2.2.2.2
end Go.Proofs.Ytappficbjjkmiaa

/-
  What is read of tapes by parts, with no word of the program.
-/
namespace Go.Proofs.Ytappficbjjkmiaa
open Go.RowKit

/-- The blocks of a part; none: they are not there. -/
def M.partB (ts : List M.TapeD) (p : M.PartD) : Option (List ByteArray) :=
  match ts[p.q.toNat]? with
  | none => none
  | some t => if 0 ≤ p.q ∧ t.lab = p.l ∧ 0 ≤ p.s ∧ 0 ≤ p.c ∧ p.c ≤ (t.ss.length : Int) - p.s then some ((t.ss.drop p.s.toNat).take p.c.toNat) else none
def M.bytesOf (ss : List ByteArray) : List UInt8 := ss.flatMap fun s => s.data.toList
theorem M.bytesOf_snoc (ss : List ByteArray) (s : ByteArray) : M.bytesOf (ss ++ [s]) = M.bytesOf ss ++ s.data.toList := by simp [M.bytesOf]
theorem M.bytesOf_nil : M.bytesOf [] = [] := rfl
/-- The bytes of parts, one behind the other; none: one is not there. -/
def M.readB (ts : List M.TapeD) : List M.PartD → Option (List UInt8)
  | [] => some []
  | p :: ps => match M.partB ts p with
    | none => none
    | some bs => (M.readB ts ps).map (M.bytesOf bs ++ ·)
theorem M.readB_app (ts : List M.TapeD) : ∀ (xs ys : List M.PartD), M.readB ts (xs ++ ys) = match M.readB ts xs with | none => none | some L => (M.readB ts ys).map (L ++ ·)
  | [], ys => by
    show M.readB ts ys = (M.readB ts ys).map _
    cases M.readB ts ys <;> simp
  | x :: xs, ys => by
    show (match M.partB ts x with | none => none | some bs => (M.readB ts (xs ++ ys)).map (M.bytesOf bs ++ ·)) = _
    rw [M.readB_app ts xs ys]
    show _ = match (match M.partB ts x with | none => none | some bs => (M.readB ts xs).map (M.bytesOf bs ++ ·)) with | none => none | some L => (M.readB ts ys).map (L ++ ·)
    cases M.partB ts x with
    | none => rfl
    | some bs =>
      cases M.readB ts xs with
      | none => rfl
      | some L =>
        cases M.readB ts ys with
        | none => rfl
        | some K => simp
theorem M.readB_some {ts : List M.TapeD} {ps : List M.PartD} {k : Nat} {p : M.PartD} {L : List UInt8} {bs : List ByteArray} (h : M.readB ts (ps.take k) = some L) (hp : ps[k]? = some p) (hb : M.partB ts p = some bs) : M.readB ts (ps.take (k + 1)) = some (L ++ M.bytesOf bs) := by
  rw [List.take_add_one, hp, M.readB_app, h]
  simp [M.readB, hb]
theorem M.readB_none {ts : List M.TapeD} {ps : List M.PartD} {k : Nat} {p : M.PartD} {L : List UInt8} (h : M.readB ts (ps.take k) = some L) (hp : ps[k]? = some p) (hb : M.partB ts p = none) : M.readB ts ps = none := by
  have hl := (List.getElem?_eq_some_iff.1 hp).1
  have hd : ps.drop k = p :: ps.drop (k + 1) := by
    rw [List.drop_eq_getElem_cons hl, (List.getElem?_eq_some_iff.1 hp).2]
  have := M.readB_app ts (ps.take k) (ps.drop k)
  rw [List.take_append_drop, h, hd] at this
  rw [this]
  simp [M.readB, hb]
/-- What TapesRead tells: a text and a code. -/
def M.tread (ts : List M.TapeD) (ps : List M.PartD) (many : Int) : ByteArray × Int :=
  if 400 < ts.length ∨ 400 < ps.length then (⟨#[]⟩, 2) else
  if M.tapesR ts = false ∨ many < 0 then (⟨#[]⟩, 1) else
  match M.readB ts ps with
  | none => (⟨#[]⟩, 6)
  | some L => if (L.length : Int) < many then (⟨#[]⟩, 4) else (⟨(L.take many.toNat).toArray⟩, 0)
theorem M.partB_no {ts : List M.TapeD} {p : M.PartD} (h : ¬ (0 ≤ p.q ∧ p.q < (ts.length : Int))) : M.partB ts p = none := by
  unfold M.partB
  cases h1 : ts[p.q.toNat]? with
  | none => rfl
  | some t =>
    have := (List.getElem?_eq_some_iff.1 h1).1
    simp only
    rw [if_neg (fun hc => h ⟨hc.1, by omega⟩)]
theorem M.partB_at {ts : List M.TapeD} {p : M.PartD} {Q : Nat} {t : M.TapeD} (hq : p.q = (Q : Int)) (h : ts[Q]? = some t) : M.partB ts p = if t.lab = p.l ∧ 0 ≤ p.s ∧ 0 ≤ p.c ∧ p.c ≤ (t.ss.length : Int) - p.s then some ((t.ss.drop p.s.toNat).take p.c.toNat) else none := by
  unfold M.partB
  rw [hq, Int.toNat_natCast, h]
  simp
theorem M.tapesR_blk {ts : List M.TapeD} (h : M.tapesR ts = true) {t : M.TapeD} (ht : t ∈ ts) : t.ss.length ≤ 300 ∧ ∀ s ∈ t.ss, s.size = 64 := by
  have := M.tapeR_iff.1 ((M.tapesR_iff.1 h).2 t ht)
  exact ⟨by omega, this.2.2.2.2⟩
end Go.Proofs.Ytappficbjjkmiaa

/-
  What isTape of the program does.
-/
namespace Go.Proofs.Ytappficbjjkmiaa
open Go.RowKit

set_option maxRecDepth 100000 in
theorem iIsTape_any (w : World) (a : Option Addr) (n c : Nat) (k : Int) (_ : n ≤ 9223372036854775807) :
    Calls Try.prog 65 #[.slice a n c, .int .i64 k] w fun e w' => e = .returned (.bool (decide (0 ≤ k ∧ k < (n : Int)))) ∧ w = w' := by
  by_cases h0 : 0 ≤ k
  · have d0 : decide (0 ≤ k) = true := decide_eq_true h0
    by_cases h1 : k < (n : Int)
    · rw [decide_eq_true (show 0 ≤ k ∧ k < (n : Int) from ⟨h0, h1⟩)]
      have d1 : decide (k < (n : Int)) = true := decide_eq_true h1
      clear h0 h1
      go_enter Try.func65, Try.ntmps65
      go_wp2
      go_ret
      exact ⟨rfl, rfl⟩
    · rw [decide_eq_false (show ¬ (0 ≤ k ∧ k < (n : Int)) from fun h => h1 h.2)]
      have d1 : decide (k < (n : Int)) = false := decide_eq_false h1
      clear h0 h1
      go_enter Try.func65, Try.ntmps65
      go_wp2
      go_ret
      exact ⟨rfl, rfl⟩
  · rw [decide_eq_false (show ¬ (0 ≤ k ∧ k < (n : Int)) from fun h => h0 h.1)]
    have d0 : decide (0 ≤ k) = false := decide_eq_false h0
    clear h0
    go_enter Try.func65, Try.ntmps65
    go_wp2
    go_ret
    exact ⟨rfl, rfl⟩
end Go.Proofs.Ytappficbjjkmiaa
