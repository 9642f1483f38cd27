/-
  What markMarkS and heldMarkS of the laws do in rows of the call's own.
-/
import Derived.Test.YtcoppfmigpdglaaOwnMarks
import Derived.Test.YtcoppfmigpdglaaLinkBox
namespace Go.Proofs.Ytcoppfmigpdglaa
open Go.RowKit

/-- The mark of the marks from a number on. -/
def M.mkmark (k : Nat) : M.MkD := ⟨(k : Int), (k : Int) + 1, (k : Int) + 2⟩
def M.mkmarks (n k : Nat) : List M.MkD := (List.range n).map fun i => M.mkmark (k + 3 * i)
theorem M.mkmarks_len (n k : Nat) : (M.mkmarks n k).length = n := by simp [M.mkmarks]
theorem M.mkmarks_snoc (n k : Nat) : M.mkmarks (n + 1) k = M.mkmarks n k ++ [M.mkmark (k + 3 * n)] := by simp [M.mkmarks, List.range_succ]
theorem M.mkmarks_at {n k i : Nat} (h : i < (M.mkmarks n k).length) : (M.mkmarks n k)[i] = M.mkmark (k + 3 * i) := by simp [M.mkmarks]
theorem M.MksAt.snoc {w W : World} {H k : Nat} {ps : List M.MkD} {p : M.MkD} (h : M.MksAt w H 0 ps) (hk : ps.length = k) (hold : ∀ j, j < k * 3 → W.cell? ⟨H, j, none⟩ = w.cell? ⟨H, j, none⟩) (h0 : W.cell? ⟨H, k * 3, none⟩ = some (.int .i64 p.id)) (h1 : W.cell? ⟨H, k * 3 + 1, none⟩ = some (.int .i64 p.level)) (h2 : W.cell? ⟨H, k * 3 + 2, none⟩ = some (.int .i64 p.base)) :
    M.MksAt W H 0 (ps ++ [p]) := by
  intro i hi
  rw [List.length_append] at hi
  simp only [Nat.zero_add]
  by_cases e : i = k
  · subst e
    have : (ps ++ [p])[i] = p := by simp [← hk]
    rw [this]
    exact ⟨h0, h1, h2⟩
  · have hi' : i < ps.length := by simp at hi; omega
    rw [List.getElem_append_left hi']
    obtain ⟨g0, g1, g2⟩ := h i hi'
    simp only [Nat.zero_add] at g0 g1 g2
    exact ⟨(hold _ (by omega)).trans g0, (hold _ (by omega)).trans g1, (hold _ (by omega)).trans g2⟩
theorem M.cok {W : World} {H i j : Nat} {v : Value} (h : i ≠ j) : (W.setCell ⟨H, i, none⟩ v).cell? ⟨H, j, none⟩ = W.cell? ⟨H, j, none⟩ := World.cell?_setCell_other _ _ _ _ (by intro e; simp only [Addr.mk.injEq] at e; omega)
theorem M.grk1 {w W : World} {g o : Nat} {v : Value} (h : w.grownBy W (some g)) : w.grownBy (W.setCell ⟨g, o, none⟩ v) (some g) :=
  ⟨h.os, h.tape, h.output, by have := h.size; simp [World.setCell]; omega, fun k hk hne => by
    rw [Below.heap_setCell W ⟨g, o, none⟩ v k (fun e => hne (by rw [e]))]; exact h.block k hk hne⟩

set_option maxRecDepth 100000 in
set_option maxHeartbeats 3200000 in
theorem markMarkS_at (w : World) (g n cap N k : Nat) (hr : M.Row w g 80 N) (hN : n * 3 ≤ N) (hl : n ≤ 1048576) (hk1 : 1 ≤ k) (hk : k ≤ 40000000) :
    Calls Try.prog 30 #[.slice (some ⟨g, 0, none⟩) n cap, .int .i64 (k : Int)] w fun e w' => e = .returned (.int .i64 ((k + 3 * n : Nat) : Int)) ∧ M.MksAt w' g 0 (M.mkmarks n k) ∧ M.Row w' g 80 N ∧ w.grownBy w' (some g) := by
  have HR := M.hl hr
  clear hr
  go_enter Try.func30, Try.ntmps30
  go_wp2
  go_loopw [1, 5] (fun x y wr => ∃ (i K : Nat), x = .int .i64 (K : Int) ∧ y = .int .i64 i ∧ i ≤ n ∧ K ≤ 50000000 ∧ Hid (K = k + 3 * i) ∧ Hid (M.MksAt wr g 0 (M.mkmarks i k)) ∧ Hid (M.Row wr g 80 N) ∧ Hid (w.grownBy wr (some g))) (fun _ y _ => n - (intOf y).toNat)
  case atStart => exact ⟨0, k, rfl, rfl, Nat.zero_le _, by omega, rfl, fun i hi => by simp [M.mkmarks] at hi, HR, World.grownBy.refl _ _⟩
  case round =>
    obtain ⟨i, K, rfl, rfl, hi, hK3, HK, HSr, HRr, HGr⟩ := hrel
    by_cases hlt : i < n
    · obtain ⟨v0, g0⟩ := HRr.out.cell (i := i * 3) (by omega)
      obtain ⟨v1, g1⟩ := HRr.out.cell (i := i * 3 + 1) (by omega)
      obtain ⟨v2, g2⟩ := HRr.out.cell (i := i * 3 + 2) (by omega)
      have fr := HRr.out.free
      have HS2 : Hid (M.MksAt (((wr.setCell ⟨g, i * 3, none⟩ (.int .i64 (K : Int))).setCell ⟨g, i * 3 + 1, none⟩ (.int .i64 ((K : Int) + 1))).setCell ⟨g, i * 3 + 2, none⟩ (.int .i64 ((K : Int) + 2))) g 0 (M.mkmarks (i + 1) k)) := by
        show M.MksAt _ _ _ _
        rw [M.mkmarks_snoc, ← HK.out]
        refine HSr.out.snoc (M.mkmarks_len i k) (fun j hj => ?_) ?_ ?_ ?_
        · rw [M.cok (by omega), M.cok (by omega), M.cok (by omega)]
        · rw [M.cok (by omega), M.cok (by omega), World.cell?_setCell_same _ _ _ g0]; rfl
        · rw [M.cok (by omega), World.cell?_setCell_same _ _ _ ((M.cok (by omega)).trans g1)]; rfl
        · rw [World.cell?_setCell_same _ _ _ ((M.cok (by omega)).trans ((M.cok (by omega)).trans g2))]; rfl
      have HR2 := M.hl (((HRr.out.setCell (i * 3) (.int .i64 (K : Int))).setCell (i * 3 + 1) (.int .i64 ((K : Int) + 1))).setCell (i * 3 + 2) (.int .i64 ((K : Int) + 2)))
      have HG2 := M.hl (M.grk1 (o := i * 3 + 2) (v := .int .i64 ((K : Int) + 2)) (M.grk1 (o := i * 3 + 1) (v := .int .i64 ((K : Int) + 1)) (M.grk1 (o := i * 3) (v := .int .i64 (K : Int)) HGr.out)))
      have hKn : K + 3 ≤ 50000000 := by have := HK.out; omega
      go_wp2
      go_roundw
      case rel => exact ⟨i + 1, K + 3, by go_num, by go_num, by omega, hKn, by show _ = _; have := HK.out; omega, HS2, HR2, HG2⟩
      case measure => simp [intOf]; omega
    · obtain rfl : i = n := by omega
      have HKK : Hid ((K : Int) = ((k + 3 * i : Nat) : Int)) := by show _ = _; rw [HK.out]
      go_wp2
      go_ret
      exact ⟨by rw [HKK.out]; rfl, HSr.out, HRr.out, HGr.out⟩
theorem markMarkS_own (w : World) (base : Nat) (v : Value) (ps : List M.MkD) (k : Nat) (h : M.OwnK w base v ps) (hl : ps.length ≤ 1048576) (hk1 : 1 ≤ k) (hk : k ≤ 40000000) :
    Calls Try.prog 30 #[v, .int .i64 (k : Int)] w fun e w' => e = .returned (.int .i64 ((k + 3 * ps.length : Nat) : Int)) ∧ M.OwnK w' base v (M.mkmarks ps.length k) ∧ w.grownBy w' v.ownBlock := by
  obtain ⟨hl0, ⟨rfl, h0⟩ | ⟨g, cap, cur, rfl, hb, hh, hn, hc, hz, ht⟩⟩ := h
  · rw [h0]
    go_enter Try.func30, Try.ntmps30
    go_wp2
    go_loopw [1, 5] (fun x y wr => x = .int .i64 (k : Int) ∧ y = .int .i64 0 ∧ w = wr) (fun _ _ _ => 0)
    case atStart => exact ⟨rfl, rfl, rfl⟩
    case round =>
      obtain ⟨rfl, rfl, rfl⟩ := hrel
      go_wp2
      go_ret
      exact ⟨rfl, ⟨rfl, .inl ⟨rfl, rfl⟩⟩, World.grownBy.refl _ _⟩
  · refine (markMarkS_at w g ps.length cap (cap * 3) k ⟨cur, hh, hz⟩ (Nat.mul_le_mul_right 3 hn) hl hk1 hk).mono ?_
    rintro e w' ⟨rfl, hat, ⟨cur', hh', hz'⟩, hg⟩
    refine ⟨rfl, ⟨by rw [M.cellsM_len], .inr ⟨g, cap, cur', by rw [M.mkmarks_len], hb, hh', by rw [M.mkmarks_len]; exact hn, hc, hz', ?_⟩⟩, hg⟩
    apply List.ext_getElem?
    intro t
    rw [M.mkmarks_len]
    by_cases h : t < ps.length * 3
    · rw [List.getElem?_take_of_lt h]
      have hl2 : t / 3 < (M.mkmarks ps.length k).length := by rw [M.mkmarks_len]; omega
      obtain ⟨c0, c1, c2⟩ := hat (t / 3) hl2
      have key : ∀ c, c < 3 → cur'.toList[t / 3 * 3 + c]? = (M.mcells ((M.mkmarks ps.length k)[t / 3]))[c]? := fun c hc4 => by
        have hcell : w'.cell? ⟨g, t / 3 * 3 + c, none⟩ = cur'.toList[t / 3 * 3 + c]? := by simp [World.cell?, hh']
        rw [← hcell]
        simp only [Nat.zero_add] at c0 c1 c2
        match c, hc4 with
        | 0, _ => exact c0
        | 1, _ => exact c1
        | 2, _ => exact c2
      have h1 := key (t % 3) (Nat.mod_lt _ (by decide))
      have h2 := M.cellsM_get (M.mkmarks ps.length k) (t / 3) hl2 (t % 3) (Nat.mod_lt _ (by decide))
      rw [show t / 3 * 3 + t % 3 = t by omega] at h1 h2
      rw [h1, h2]
    · rw [List.getElem?_eq_none (by rw [List.length_take]; exact Nat.le_trans (Nat.min_le_left _ _) (by omega)), List.getElem?_eq_none (by rw [M.cellsM_len, M.mkmarks_len]; omega)]

set_option maxRecDepth 100000 in
set_option maxHeartbeats 3200000 in
theorem heldMarkS_at (w : World) (a : Option Addr) (n cap k : Nat) (h : M.Mks w a n cap (M.mkmarks n k)) (hl : n ≤ 1048576) (hk1 : 1 ≤ k) (hk : k ≤ 40000000) :
    Calls Try.prog 31 #[.slice a n cap, .int .i64 (k : Int)] w fun e w' => e = .returned (.int .i64 ((k + 3 * n : Nat) : Int)) ∧ w = w' := by
  have HF := M.hl h
  clear h
  go_enter Try.func31, Try.ntmps31
  go_wp2
  go_loop [1, 5] (fun x y => ∃ (i K : Nat), x = .int .i64 (K : Int) ∧ y = .int .i64 i ∧ i ≤ n ∧ K ≤ 50000000 ∧ Hid (K = k + 3 * i)) (fun _ y => n - (intOf y).toNat)
  case atStart => exact ⟨0, k, rfl, rfl, Nat.zero_le _, by omega, rfl⟩
  case round =>
    obtain ⟨i, K, rfl, rfl, hi, hK3, HK⟩ := hrel
    by_cases hlt : i < n
    · obtain ⟨-, -, -, hfa⟩ := HF.out
      obtain ⟨b, off, rfl, hat⟩ := hfa (by omega)
      obtain ⟨c0, c1, c2⟩ := hat i (by rw [M.mkmarks_len]; exact hlt)
      rw [M.mkmarks_at, ← HK.out] at c0 c1 c2
      unfold M.mkmark at c0 c1 c2
      simp only at c0 c1 c2
      have d0 : ((K : Int) != (K : Int)) = false := by simp
      have d1 : (((K : Int) + 1) != ((K : Int) + 1)) = false := by simp
      have d2 : (((K : Int) + 2) != ((K : Int) + 2)) = false := by simp
      have hKn : K + 3 ≤ 50000000 := by have := HK.out; omega
      clear hat hfa
      go_wp2
      go_round
      case rel => exact ⟨i + 1, K + 3, by go_num, by go_num, by omega, hKn, by show _ = _; have := HK.out; omega⟩
      case measure => simp [intOf]; omega
    · obtain rfl : i = n := by omega
      have HKK : Hid ((K : Int) = ((k + 3 * i : Nat) : Int)) := by show _ = _; rw [HK.out]
      go_wp2
      go_ret
      exact ⟨by rw [HKK.out]; rfl, rfl⟩
theorem heldMarkS_own (w : World) (base : Nat) (v : Value) (n k : Nat) (h : M.OwnK w base v (M.mkmarks n k)) (hl : n ≤ 1048576) (hk1 : 1 ≤ k) (hk : k ≤ 40000000) :
    Calls Try.prog 31 #[v, .int .i64 (k : Int)] w fun e w' => e = .returned (.int .i64 ((k + 3 * n : Nat) : Int)) ∧ w = w' := by
  obtain ⟨a, cap, rfl, hv⟩ := h.mks
  rw [M.mkmarks_len] at hv ⊢
  exact heldMarkS_at w a n cap k hv hl hk1 hk
end Go.Proofs.Ytcoppfmigpdglaa
