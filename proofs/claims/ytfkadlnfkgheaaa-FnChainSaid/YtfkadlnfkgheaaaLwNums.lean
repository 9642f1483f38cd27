/-
  What the laws' helpers lwIds, lwHas and lwMark do.
-/
import Derived.Test.YtfkadlnfkgheaaaSKept
namespace Go.Proofs.Ytfkadlnfkgheaaa
open Go.RowKit

set_option maxRecDepth 100000 in
set_option maxHeartbeats 1600000 in
theorem lwIds_nv (w : World) (a a' : Option Addr) (len cap cap' : Nat) (zs : List Int) (h : M.NV w a len zs) (h' : M.NV w a' len zs) (hl : len ≤ 2000000) :
    Calls Try.prog 10 #[.slice a len cap, .slice a' len cap'] w fun e w' => e = .returned (.bool true) ∧ Below w.heap.size w w' := by
  have HF := M.hidm h
  have HG := M.hidm h'
  clear h h'
  have d0 : ((len : Int) != (len : Int)) = false := by simp
  go_enter Try.func10, Try.ntmps10
  go_wp2
  go_loopw [5] (fun i wr => ∃ k : Nat, i = .int .i64 k ∧ k ≤ len ∧ Hid (Below w.heap.size w wr)) (fun i _ => len - (intOf i).toNat)
  case atStart => exact ⟨0, rfl, Nat.zero_le _, Below.refl _ _⟩
  case round =>
    obtain ⟨k, rfl, hk, HBr⟩ := hrel
    by_cases hlt : k < len
    · obtain ⟨hfl, hfa⟩ := HF.out
      obtain ⟨b, off, rfl, hat⟩ := hfa (by omega)
      have c0 := hat k (by omega)
      obtain ⟨hfl', hfa'⟩ := HG.out
      obtain ⟨b', off', rfl, hat'⟩ := hfa' (by omega)
      have e0 := hat' k (by omega)
      generalize zs[k]'(by omega) = z at c0 e0
      have c1 := (HBr.out.cell (p := ⟨b, off + k, none⟩) (World.block_lt_of_cell? w _ c0)).trans c0
      have e1 := (HBr.out.cell (p := ⟨b', off' + k, none⟩) (World.block_lt_of_cell? w _ e0)).trans e0
      have dz : (z != z) = false := by simp
      have HBD : Hid (Below w.heap.size w wr.drew) := M.sm HBr.out (Below.refl _ _).drew
      clear hat hfa hfl hat' hfa' hfl' c0 e0
      go_wp2_with fail
      go_region
      go_wp2
      refine ⟨⟨k + 1, by go_num, by omega, ?_⟩, by simp [intOf]; omega⟩
      exact HBD
    · go_wp2
      go_ret
      exact ⟨rfl, HBr.out⟩
theorem lwIds_same (w : World) (b b' : Nat) (v v' : Value) (zs : List Int) (h : M.OwnN w b v zs) (h' : M.OwnN w b' v' zs) (hl : zs.length ≤ 1000000) :
    Calls Try.prog 10 #[v, v'] w fun e w' => e = .returned (.bool true) ∧ Below w.heap.size w w' := by
  obtain ⟨a, cap, rfl, hv⟩ := h.nv
  obtain ⟨a', cap', rfl, hv'⟩ := h'.nv
  exact lwIds_nv w a a' _ cap cap' zs hv hv' (by omega)

set_option maxRecDepth 100000 in
set_option maxHeartbeats 800000 in
theorem lwHas_nv (w : World) (a : Option Addr) (len cap : Nat) (zs : List Int) (n : Int) (h : M.NV w a len zs) (hl : len ≤ 1000000) :
    Calls Try.prog 18 #[.slice a len cap, .int .i64 n] w fun e w' => e = .returned (.bool (M.has zs n)) ∧ w = w' := by
  have HF := M.hidm h
  have HL : Hid (len = zs.length) := h.1
  clear h
  go_enter Try.func18, Try.ntmps18
  go_wp2
  go_loop [5] (fun i => ∃ k : Nat, i = .int .i64 k ∧ k ≤ len ∧ Hid (∀ t (h : t < zs.length), t < k → zs[t] ≠ n)) (fun i => len - (intOf i).toNat)
  case atStart => exact ⟨0, rfl, Nat.zero_le _, fun t _ h => absurd h (Nat.not_lt_zero _)⟩
  case round =>
    obtain ⟨k, rfl, hk, HG⟩ := hrel
    by_cases hlt : k < len
    · have hkm : k < zs.length := by have := HL.out; omega
      obtain ⟨-, hfa⟩ := HF.out
      obtain ⟨b, off, rfl, hat⟩ := hfa (by omega)
      have c0 := hat k hkm
      have hfk := List.getElem?_eq_getElem hkm
      generalize zs[k]'hkm = z at c0 hfk
      have HFK := M.hidm hfk
      clear hat hfa hfk hkm
      by_cases e : z = n
      · have d0 : (z == n) = true := by simpa using e
        have HY : Hid (M.has zs n = true) := decide_eq_true (by rw [← e]; exact List.mem_of_getElem? HFK.out)
        clear e
        go_wp2
        go_ret
        exact ⟨by rw [HY.out]; rfl, rfl⟩
      · have d0 : (z == n) = false := by simpa using e
        have HG2 : Hid (∀ t (h : t < zs.length), t < k + 1 → zs[t] ≠ n) := fun t ht htk => by
          by_cases e2 : t = k
          · subst e2
            obtain ⟨h1, h2⟩ := List.getElem?_eq_some_iff.1 HFK.out
            rw [h2]; exact e
          · exact HG.out t ht (by omega)
        clear e
        go_wp2
        go_round
        case rel => exact ⟨k + 1, by go_num, by omega, HG2⟩
        case measure => simp [intOf]; omega
    · have HN : Hid (M.has zs n = false) := decide_eq_false fun hm => by
        obtain ⟨i, hi, e⟩ := List.mem_iff_getElem.1 hm
        exact HG.out i hi (by have := HL.out; omega) e
      go_wp2
      go_ret
      exact ⟨by rw [HN.out]; rfl, rfl⟩

set_option maxRecDepth 100000 in
set_option maxHeartbeats 800000 in
/-- The mark of an Id that is there. -/
theorem lwMark_any (w : World) (a : Option Addr) (len cap : Nat) (ms : List M.MkD) (id : Int) (x : M.MkD) (h : M.Mks w a len cap ms) (hx : M.found ms id = some x) (hl : len ≤ 1000000) :
    Calls Try.prog 14 #[.slice a len cap, .int .i64 id] w fun e w' => e = .returned (.agg #[.int .i64 x.id, .int .i64 x.level, .int .i64 x.base]) ∧ Below w.heap.size w w' := by
  have HF := M.hidm h
  have HL : Hid (len = ms.length) := h.1
  have HX := M.hidm hx
  clear h hx
  go_enter Try.func14, Try.ntmps14
  have hA : Below w.heap.size w (w.alloc (.cells #[.int .i64 0, .int .i64 0, .int .i64 0] 31)) := (Below.refl _ _).alloc (Nat.le_refl _) _
  have b0 := M.bx (w := w) (T := 31) (vs := #[.int .i64 0, .int .i64 0, .int .i64 0]) (Below.refl _ _) 0 _ rfl
  have b1 := M.bx (w := w) (T := 31) (vs := #[.int .i64 0, .int .i64 0, .int .i64 0]) (Below.refl _ _) 1 _ rfl
  have b2 := M.bx (w := w) (T := 31) (vs := #[.int .i64 0, .int .i64 0, .int .i64 0]) (Below.refl _ _) 2 _ rfl
  have f0 := M.bx_free (w := w) (T := 31) (vs := #[.int .i64 0, .int .i64 0, .int .i64 0]) (Below.refl _ _) 0
  have f1 := M.bx_free (w := w) (T := 31) (vs := #[.int .i64 0, .int .i64 0, .int .i64 0]) (Below.refl _ _) 1
  have f2 := M.bx_free (w := w) (T := 31) (vs := #[.int .i64 0, .int .i64 0, .int .i64 0]) (Below.refl _ _) 2
  have HM1 := M.hidm (HF.out.below hA)
  have HB1 := M.hidm hA
  clear hA HF
  go_wp2
  generalize w.alloc (.cells #[.int .i64 0, .int .i64 0, .int .i64 0] 31) = w1 at b0 b1 b2 f0 f1 f2 HM1 HB1 ⊢
  go_loop [5] (fun i => ∃ k : Nat, i = .int .i64 k ∧ k ≤ len ∧ Hid (∀ t (h : t < ms.length), t < k → ms[t].id ≠ id)) (fun i => len - (intOf i).toNat)
  case atStart => exact ⟨0, rfl, Nat.zero_le _, fun t _ h => absurd h (Nat.not_lt_zero _)⟩
  case round =>
    obtain ⟨k, rfl, hk, HG⟩ := hrel
    by_cases hlt : k < len
    · have hkm : k < ms.length := by have := HL.out; omega
      obtain ⟨-, -, -, hfa⟩ := HM1.out
      obtain ⟨b, off, rfl, hat⟩ := hfa (by omega)
      obtain ⟨c0, c1, c2⟩ := hat k hkm
      have hfk := List.getElem?_eq_getElem hkm
      generalize ms[k]'hkm = z at c0 c1 c2 hfk
      have HFK := M.hidm hfk
      clear hat hfa hfk hkm
      by_cases e : z.id = id
      · have d0 : (z.id == id) = true := by simpa using e
        have HY : Hid (x = z) := by
          show _ = _
          obtain ⟨hkm, ez⟩ := List.getElem?_eq_some_iff.1 HFK.out
          have hx := HX.out
          unfold M.found at hx
          rw [List.find?_eq_some_iff_getElem] at hx
          obtain ⟨hp, i, hi, hix, hlow⟩ := hx
          rcases Nat.lt_trichotomy i k with h | h | h
          · exact absurd (by rw [hix]; simpa using hp) (HG.out i hi h)
          · subst h; rw [← hix, ez]
          · have := hlow k h
            rw [ez] at this
            simp [e] at this
        obtain ⟨x0, x1, x2⟩ := M.put3 (.int .i64 z.id) (.int .i64 z.level) (.int .i64 z.base) b0 b1 b2
        have HBX : Hid (Below w.heap.size w _) := M.below_put3 (.int .i64 z.id) (.int .i64 z.level) (.int .i64 z.base) HB1.out (Nat.le_refl _)
        clear e
        go_wp2
        refine bodyPost_ret (v := .agg #[.int .i64 z.id, .int .i64 z.level, .int .i64 z.base]) (by simp [results, Try.results14, go_sem, x0, x1, x2]) rfl ⟨by rw [HY.out], HBX.out⟩
      · have d0 : (z.id == id) = false := by simpa using e
        have HG2 : Hid (∀ t (h : t < ms.length), t < k + 1 → ms[t].id ≠ id) := fun t ht htk => by
          by_cases e2 : t = k
          · subst e2
            obtain ⟨h1, h2⟩ := List.getElem?_eq_some_iff.1 HFK.out
            rw [h2]; exact e
          · exact HG.out t ht (by omega)
        clear e
        go_wp2
        go_round
        case rel => exact ⟨k + 1, by go_num, by omega, HG2⟩
        case measure => simp [intOf]; omega
    · exfalso
      obtain ⟨h1, h2⟩ := M.found_id HX.out
      obtain ⟨i, hi, e⟩ := List.mem_iff_getElem.1 h2
      exact HG.out i hi (by have := HL.out; omega) (by rw [e]; exact h1)
end Go.Proofs.Ytfkadlnfkgheaaa
