/-
  What the program's find does: the mark of an Id, by a binary search.
-/
import Derived.Test.YtpokcbcffijheabRows
import Derived.Test.YtpokcbcffijheabTowRight
import Derived.WalkSpells
import Derived.WalkLawsBesides
namespace Go.Proofs.Ytpokcbcffijheab
open Go.RowKit

theorem M.hidm {p : Prop} (h : p) : Hid p := h
theorem M.sm {a w v : World} (h : Below a.heap.size a w) (h' : Below w.heap.size w v) : Below a.heap.size a v := h.trans (h'.mono h.size)
def M.cmpI (x y : Int) : Int := if x < y then -1 else if y < x then 1 else 0

set_option maxRecDepth 100000 in
set_option maxHeartbeats 800000 in
theorem cmpI_any (x y : Int) (w : World) : Calls Try.prog 88 #[.int .i64 x, .int .i64 y] w fun e w' => e = .returned (.int .i64 (M.cmpI x y)) ∧ w = w' := by
  unfold M.cmpI
  by_cases h1 : x < y
  · rw [if_pos h1]
    have d1 : decide (x < y) = true := decide_eq_true h1
    clear h1
    go_enter Try.func88, Try.ntmps88
    go_wp2
    go_ret
    exact ⟨rfl, rfl⟩
  · rw [if_neg h1]
    have d1 : decide (x < y) = false := decide_eq_false h1
    by_cases h2 : y < x
    · rw [if_pos h2]
      have d2 : decide (y < x) = true := decide_eq_true h2
      clear h1 h2
      go_enter Try.func88, Try.ntmps88
      go_wp2
      go_ret
      exact ⟨rfl, rfl⟩
    · rw [if_neg h2]
      have d2 : decide (y < x) = false := decide_eq_false h2
      clear h1 h2
      go_enter Try.func88, Try.ntmps88
      go_wp2
      go_ret
      exact ⟨rfl, rfl⟩

set_option maxRecDepth 100000 in
set_option maxHeartbeats 800000 in
theorem iCmp_any (m : M.MkD) (id : Int) (w : World) : Calls Try.prog 87 #[M.mval m, .int .i64 id] w fun e w' => e = .returned (.int .i64 (M.cmpI m.id id)) ∧ Below w.heap.size w w' := by
  obtain ⟨x, l, b⟩ := m
  show Calls Try.prog 87 #[.agg #[.int .i64 x, .int .i64 l, .int .i64 b], .int .i64 id] w _
  have HC : Hid (∀ W, Calls Try.prog 88 #[.int .i64 x, .int .i64 id] W fun e w' => e = .returned (.int .i64 (M.cmpI x id)) ∧ W = w') := fun W => cmpI_any x id W
  simp only
  generalize M.cmpI x id = c at HC ⊢
  go_enter Try.func87, Try.ntmps87
  go_wp2_with fail
  refine (HC.out _).mono ?_
  rintro e w' ⟨rfl, rfl⟩
  go_wp2
  go_ret
  exact ⟨rfl, (Below.refl _ _).alloc (Nat.le_refl _) _⟩

set_option maxRecDepth 100000 in
set_option maxHeartbeats 3200000 in
theorem iBin_any (w : World) (a : Option Addr) (len cap : Nat) (ms : List M.MkD) (id : Int) (h : M.Mks w a len cap ms) (hA : M.Asc ms) (hl : len ≤ 1000000) :
    Calls Try.prog 86 #[.slice a len cap, .int .i64 id, .func (.func 87) #[] #[]] w fun e w' => ∃ (k : Nat) (v : Bool), e = .returned (.tuple #[.int .i64 k, .bool v]) ∧ k ≤ len ∧
      (∀ t (h : t < ms.length), t < k → ms[t].id < id) ∧ (∀ t (h : t < ms.length), k ≤ t → id ≤ ms[t].id) ∧ (v = true ↔ ∃ h : k < ms.length, ms[k].id = id) ∧ Below w.heap.size w w' := by
  have HL : Hid (len = ms.length) := h.1
  have HM := M.hidm h
  have HA := M.hidm hA
  clear h hA
  go_enter Try.func86, Try.ntmps86
  go_wp2
  go_loopw [9, 10] (fun x y wr => ∃ lo hi : Nat, x = .int .i64 lo ∧ y = .int .i64 hi ∧ lo ≤ hi ∧ hi ≤ len ∧ Hid ((∀ t (h : t < ms.length), t < lo → ms[t].id < id) ∧ (∀ t (h : t < ms.length), hi ≤ t → id ≤ ms[t].id)) ∧ Hid (Below w.heap.size w wr)) (fun x y _ => (intOf y - intOf x).toNat)
  case atStart => exact ⟨0, len, rfl, rfl, Nat.zero_le _, Nat.le_refl _, ⟨fun t _ ht => absurd ht (Nat.not_lt_zero _), fun t h1 h2 => by have := HL.out; omega⟩, Below.refl _ _⟩
  case round =>
    obtain ⟨lo, hi, rfl, rfl, hlh, hin, HI, HBr⟩ := hrel
    by_cases hlt : lo < hi
    · obtain ⟨k, hk⟩ : ∃ k, k = (lo + hi) / 2 := ⟨_, rfl⟩
      have hkI : ((lo : Int) + (hi : Int)) / 2 = (k : Int) := by omega
      have hkl : k < len := by omega
      have hk1 : lo ≤ k := by omega
      have hk2 : k < hi := by omega
      clear hk
      obtain ⟨hfl, -, -, hfa⟩ := HM.out.below HBr.out
      obtain ⟨b, off, rfl, hat⟩ := hfa (by omega)
      obtain ⟨c0, c1, c2⟩ := hat k (by omega)
      have hfk := List.getElem?_eq_getElem (l := ms) (i := k) (by omega)
      generalize ms[k]'(by omega) = m at c0 c1 c2 hfk
      have HFK : Hid (ms[k]? = some m) := hfk
      have hC := fun W => iCmp_any m id W
      unfold M.mval at hC
      have HC := M.hidm hC
      clear hC hfk hat hfa hfl
      by_cases hlt2 : m.id < id
      · have hv : M.cmpI m.id id = -1 := by unfold M.cmpI; rw [if_pos hlt2]
        rw [hv] at HC
        have HI2 : Hid ((∀ t (h : t < ms.length), t < k + 1 → ms[t].id < id) ∧ (∀ t (h : t < ms.length), hi ≤ t → id ≤ ms[t].id)) := by
          refine ⟨fun t ht htk => ?_, HI.out.2⟩
          obtain ⟨hkk, e⟩ := List.getElem?_eq_some_iff.1 HFK.out
          have := HA.out.le (i := t) (j := k) (by omega) hkk
          rw [e] at this; omega
        clear hv hlt2
        go_wp2_with fail
        refine (HC.out _).mono ?_
        rintro e w1 ⟨rfl, hb⟩
        have HB1 := M.hidm (M.sm HBr.out hb)
        clear hb c0 c1 c2
        go_wp2
        go_roundw
        case rel => exact ⟨k + 1, hi, by go_num, rfl, by omega, hin, HI2, HB1⟩
        case measure => simp [intOf]; omega
      · have hv : decide (M.cmpI m.id id < 0) = false := by unfold M.cmpI; rw [if_neg hlt2]; apply decide_eq_false; split <;> omega
        have HI2 : Hid ((∀ t (h : t < ms.length), t < lo → ms[t].id < id) ∧ (∀ t (h : t < ms.length), k ≤ t → id ≤ ms[t].id)) := by
          refine ⟨HI.out.1, fun t ht htk => ?_⟩
          obtain ⟨hkk, e⟩ := List.getElem?_eq_some_iff.1 HFK.out
          have := HA.out.le (i := k) (j := t) htk ht
          rw [e] at this; omega
        generalize M.cmpI m.id id = c at HC hv
        clear hlt2
        go_wp2_with fail
        refine (HC.out _).mono ?_
        rintro e w1 ⟨rfl, hb⟩
        have HB1 := M.hidm (M.sm HBr.out hb)
        clear hb c0 c1 c2
        go_wp2
        go_roundw
        case rel => exact ⟨lo, k, rfl, rfl, by omega, by omega, HI2, HB1⟩
        case measure => simp [intOf]; omega
    · obtain rfl : lo = hi := by omega
      by_cases hn : lo < len
      · obtain ⟨hfl, -, -, hfa⟩ := HM.out.below HBr.out
        obtain ⟨b, off, rfl, hat⟩ := hfa (by omega)
        obtain ⟨c0, c1, c2⟩ := hat lo (by omega)
        have hfk := List.getElem?_eq_getElem (l := ms) (i := lo) (by omega)
        generalize ms[lo]'(by omega) = m at c0 c1 c2 hfk
        have HFK : Hid (ms[lo]? = some m) := hfk
        have hC := fun W => iCmp_any m id W
        unfold M.mval at hC
        have HC := M.hidm hC
        have d0 : decide ((lo : Int) < (len : Int)) = true := decide_eq_true (by omega)
        clear hC hfk hat hfa hfl
        have hv : (M.cmpI m.id id == 0) = decide (m.id = id) := by
          unfold M.cmpI
          by_cases h1 : m.id < id
          · rw [if_pos h1, decide_eq_false (by omega)]; rfl
          · rw [if_neg h1]
            by_cases h2 : id < m.id
            · rw [if_pos h2, decide_eq_false (by omega)]; rfl
            · rw [if_neg h2, decide_eq_true (by omega)]; rfl
        have HV : Hid (decide (m.id = id) = true ↔ ∃ h : lo < ms.length, ms[lo].id = id) := by
          obtain ⟨hkk, e⟩ := List.getElem?_eq_some_iff.1 HFK.out
          show _ ↔ _
          rw [decide_eq_true_iff]
          exact ⟨fun h => ⟨hkk, by rw [e]; exact h⟩, fun ⟨_, h⟩ => by rw [e] at h; exact h⟩
        generalize M.cmpI m.id id = c at HC hv
        generalize decide (m.id = id) = r at hv HV
        go_wp2_with fail
        refine (HC.out _).mono ?_
        rintro e w1 ⟨rfl, hb⟩
        have HB1 := M.hidm (M.sm HBr.out hb)
        clear hb c0 c1 c2
        go_wp2
        go_ret2
        exact ⟨lo, r, rfl, by omega, HI.out.1, HI.out.2, HV.out, HB1.out⟩
      · have d0 : decide ((lo : Int) < (len : Int)) = false := decide_eq_false (by omega)
        go_wp2
        go_ret2
        exact ⟨lo, false, rfl, by omega, HI.out.1, HI.out.2, ⟨fun h => (by cases h), fun ⟨h, _⟩ => (by have := HL.out; omega)⟩, HBr.out⟩

/-- What find tells. -/
def M.fnd (ms : List M.MkD) (id : Int) : Value := match M.found ms id with
  | some m => .tuple #[M.mval m, .bool true]
  | none => .tuple #[M.mval M.mz, .bool false]
set_option maxRecDepth 100000 in
set_option maxHeartbeats 1600000 in
theorem iFind_any (w : World) (a : Option Addr) (len cap : Nat) (ms : List M.MkD) (id : Int) (h : M.Mks w a len cap ms) (hA : M.Asc ms) (hl : len ≤ 1000000) :
    Calls Try.prog 59 #[.slice a len cap, .int .i64 id] w fun e w' => e = .returned (M.fnd ms id) ∧ Below w.heap.size w w' := by
  have HM := M.hidm h
  have HA := M.hidm hA
  have HL : Hid (len = ms.length) := h.1
  have hc := h.2.1
  clear h hA
  go_enter Try.func59, Try.ntmps59
  go_wp2_with fail
  refine (iBin_any _ a len cap ms id (HM.out.below ((Below.refl _ _).alloc (Nat.le_refl _) _)) HA.out hl).mono ?_
  rintro e w1 ⟨k, v, rfl, hk, lo, hi, hv, hb⟩
  have HF : Hid (v = false → M.found ms id = none) := fun e => M.found_split lo hi HA.out (fun h => by have := hv.2 h; rw [e] at this; cases this)
  have HT : Hid (v = true → ∃ h : k < ms.length, M.found ms id = some ms[k]) := fun e => by obtain ⟨h, e⟩ := hv.1 e; exact ⟨h, M.found_at h e lo⟩
  have HB1 : Hid (Below w.heap.size w w1) := M.bx_below hb
  have b0 := M.bx hb 0 _ rfl
  have b1 := M.bx hb 1 _ rfl
  have b2 := M.bx hb 2 _ rfl
  have f0 := M.bx_free hb 0
  have f1 := M.bx_free hb 1
  have f2 := M.bx_free hb 2
  have HM1 := M.hidm (HM.out.below HB1.out)
  clear lo hi hv
  cases v
  · have hE : Hid (M.fnd ms id = .tuple #[M.mval M.mz, .bool false]) := by show _ = _; unfold M.fnd; rw [HF.out rfl]
    clear HT HF
    obtain ⟨x0, x1, x2⟩ := M.put3 (.int .i64 0) (.int .i64 0) (.int .i64 0) b0 b1 b2
    have HBX : Hid (Below w.heap.size w _) := M.below_put3 (.int .i64 0) (.int .i64 0) (.int .i64 0) HB1.out (Nat.le_refl _)
    go_wp2
    refine bodyPost_ret (v := .tuple #[M.mval M.mz, .bool false]) (by simp [results, Try.results59, go_sem, M.mval, M.mz, x0, x1, x2]) rfl ⟨by rw [hE.out], HBX.out⟩
  · obtain ⟨hkm, hfd⟩ := HT.out rfl
    have hE : Hid (M.fnd ms id = .tuple #[M.mval ms[k], .bool true]) := by show _ = _; unfold M.fnd; rw [hfd]
    obtain ⟨hfl, -, -, hfa⟩ := HM1.out
    obtain ⟨b, off, rfl, hat⟩ := hfa (by omega)
    obtain ⟨c0, c1, c2⟩ := hat k hkm
    generalize ms[k]'hkm = m at c0 c1 c2 hfd hE
    have hkl : k < len := by omega
    obtain ⟨x0, x1, x2⟩ := M.put3 (.int .i64 m.id) (.int .i64 m.level) (.int .i64 m.base) b0 b1 b2
    have HBX : Hid (Below w.heap.size w _) := M.below_put3 (.int .i64 m.id) (.int .i64 m.level) (.int .i64 m.base) HB1.out (Nat.le_refl _)
    clear HT HF hfd hat hfa hfl hkm
    go_wp2
    refine bodyPost_ret (v := .tuple #[M.mval m, .bool true]) (by simp [results, Try.results59, go_sem, M.mval, x0, x1, x2]) rfl ⟨by rw [hE.out], HBX.out⟩
end Go.Proofs.Ytpokcbcffijheab
