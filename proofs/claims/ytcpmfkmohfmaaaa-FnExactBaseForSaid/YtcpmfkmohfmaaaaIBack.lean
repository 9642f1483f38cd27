/-
  What slices.Backward of marks, and BaseFor of the program, do: a range over a function.
-/
import Derived.Test.YtcpmfkmohfmaaaaIMarksR
import Derived.Test.YtcpmfkmohfmaaaaSBase
import Derived.RangeFuncNested
import Derived.RangeFuncBound
import Derived.RangeFuncCalls
import Derived.RangeFuncLeaves
import Derived.RangeFuncBox
import Derived.Shelf.Abstract
import Derived.OwnWalkIn
import Derived.TacticsInMore
import Derived.LoopNIn
import Derived.LoopIn
namespace Go.Proofs.Ytcpmfkmohfmaaaa
open Go.RowKit Go.Shelf
attribute [local go_sem] Oper.semAt_some

/-- The marks from the last one on, with their places: the first k of these. -/
def M.down (ms : List M.MkD) (k : Nat) : List (Int × M.MkD) := (List.range k).map fun j => (((ms.length - 1 - j : Nat) : Int), ms[ms.length - 1 - j]?.getD M.mz)
theorem M.down_len (ms : List M.MkD) (k : Nat) : (M.down ms k).length = k := by simp [M.down]
theorem M.down_succ {ms : List M.MkD} {k j : Nat} {m : M.MkD} (hj : j + k + 1 = ms.length) (h : ms[j]? = some m) : M.down ms (k + 1) = M.down ms k ++ [((j : Int), m)] := by
  unfold M.down
  rw [List.range_succ, List.map_append]
  simp only [List.map_cons, List.map_nil]
  rw [show ms.length - 1 - k = j by omega, h]
  rfl
/-- None of the first k is of a lower level. -/
theorem M.down_last {ms : List M.MkD} {lv : Int} : ∀ (k : Nat), k ≤ ms.length → (∀ p ∈ M.down ms k, ¬ p.2.level < lv) → M.lastB ms lv ms.length = M.lastB ms lv (ms.length - k)
  | 0, _, _ => rfl
  | k + 1, hk, h => by
    have hj : ms.length - (k + 1) + k + 1 = ms.length := by omega
    have hl : ms.length - (k + 1) < ms.length := by omega
    have hs := M.down_succ hj (List.getElem?_eq_getElem hl)
    rw [hs] at h
    rw [M.down_last k (by omega) (fun p hp => h p (List.mem_append.2 (.inl hp))), show ms.length - k = ms.length - (k + 1) + 1 by omega]
    exact M.lastB_no (List.getElem?_eq_getElem hl) (h (((ms.length - (k + 1) : Nat) : Int), ms[ms.length - (k + 1)]) (List.mem_append.2 (.inr (by simp))))

set_option maxRecDepth 100000 in
set_option maxHeartbeats 2000000 in
theorem back1_in (F : Fence) (n : Nat) (hf : F.fn 56) (hro : F.round = none) (hn : 1 ≤ n) (l Bs n₀ b off len cap : Nat) (ms : List M.MkD) (hlen : len = ms.length) (hl : len ≤ 1000000) (hb : b < n₀) (hBn : Bs < n₀) (J Jx : List (Int × M.MkD) → World → Prop)
    (hY : ∀ pre x W, J pre W → pre.length < len → YieldAt F (n - 1) Try.prog l #[.int .i64 x.1, .agg #[.int .i64 x.2.id, .int .i64 x.2.level, .int .i64 x.2.base]] W fun e W' =>
      (e = .returned (.bool true) ∧ J (pre ++ [x]) W' ∧ Below n₀ W W') ∨ (e = .returned (.bool false) ∧ Jx (pre ++ [x]) W'))
    (W : World) (hBs : W.cell? ⟨Bs, 0, none⟩ = some (.slice (some ⟨b, off, none⟩) len cap)) (hc : M.MksAt W b off ms) (h0 : J [] W) :
    CallsIn F n Try.prog 56 #[.func (.yield l) #[] #[], .pointer (some ⟨Bs, 0, none⟩)] W fun e W' => (∃ v, e = .returned v) ∧
      ((∃ ys, ys = M.down ms len ∧ J ys W') ∨ (∃ pre, (∃ k, k ≤ len ∧ pre = M.down ms k) ∧ Jx pre W')) := by
  have HL := M.hidm hlen
  have HC := M.hidm hc
  have HBS := M.hidm hBs
  clear hc hlen
  refine callsIn_of_wp Try.func56 rfl hf ?_ hro
  simp only [Try.ntmps56, List.size_toArray, List.length_cons, List.length_nil, Nat.reduceAdd, Nat.reduceSub, Array.replicate_succ, Array.replicate_zero, List.push_toArray, List.append_toArray, List.nil_append, List.cons_append]
  gi_wp2
  gi_loopw [3] (fun i wr => ∃ k : Nat, k ≤ len ∧ i = .int .i64 ((len : Int) - 1 - k) ∧ J (M.down ms k) wr ∧ Below n₀ W wr)
    (fun i _ => (intOf i + 1).toNat)
  case atStart => exact ⟨0, Nat.zero_le _, by go_num, h0, Below.refl _ _⟩
  case round =>
    obtain ⟨k, hk, rfl, hJs, hnx⟩ := hrel
    have hBs' : wr.cell? ⟨Bs, 0, none⟩ = some (.slice (some ⟨b, off, none⟩) len cap) := (hnx.cell (p := ⟨Bs, 0, none⟩) hBn).trans HBS.out
    clear hBs
    by_cases hlt : k < len
    · obtain ⟨j, hj⟩ : ∃ j : Nat, j = len - 1 - k := ⟨_, rfl⟩
      have hjI : (len : Int) - 1 - (k : Int) = (j : Int) := by omega
      have hjk : j + k + 1 = len := by omega
      have hjl : (j : Int) < (len : Int) := by omega
      clear hj
      have hjm : j < ms.length := by have := HL.out; omega
      obtain ⟨q0, q1, q2⟩ := HC.out j hjm
      have c0 := (hnx.cell (p := ⟨b, off + j * 3, none⟩) hb).trans q0
      have c1 := (hnx.cell (p := ⟨b, off + j * 3 + 1, none⟩) hb).trans q1
      have c2 := (hnx.cell (p := ⟨b, off + j * 3 + 2, none⟩) hb).trans q2
      have hfk := List.getElem?_eq_getElem hjm
      generalize ms[j]'hjm = m at q0 q1 q2 c0 c1 c2 hfk
      have HD := M.hidm (M.down_succ (k := k) (j := j) (by rw [← HL.out]; exact hjk) hfk)
      obtain ⟨fn, tmps, assign, body, hy, hR⟩ := hY _ ((j : Int), m) wr hJs (by rw [M.down_len]; exact hlt)
      dsimp only at hy hR
      clear q0 q1 q2 hfk hjm
      rw [hjI]
      gi_wp2
      refine hR.mono ?_
      rintro e W3 (⟨rfl, hJ3, hk3⟩ | ⟨rfl, hJx3⟩)
      · gi_wp2
        go_roundw
        case rel => exact ⟨k + 1, by omega, by rw [show (j : Int) - 1 = (len : Int) - 1 - ((k + 1 : Nat) : Int) by omega], by rw [HD.out]; exact hJ3, hnx.trans hk3⟩
        case measure => simp [intOf]
      · gi_wp2
        refine bodyPost_ret (results_none rfl _ _ _) rfl ?_
        exact ⟨⟨_, rfl⟩, .inr ⟨_, ⟨k + 1, by omega, HD.out.symm⟩, hJx3⟩⟩
    · obtain rfl : k = len := by omega
      have e0 : ((k : Int) - 1 - (k : Int)) = -1 := by omega
      rw [e0]
      gi_wp2
      go_end0
      exact ⟨⟨_, rfl⟩, .inl ⟨_, rfl, hJs⟩⟩

set_option maxRecDepth 100000 in
set_option maxHeartbeats 1000000 in
theorem back1_nil_in (F : Fence) (n : Nat) (hf : F.fn 56) (hro : F.round = none) (l Bs cap : Nat) (a : Option Addr) (J : List (Int × M.MkD) → World → Prop) (W : World) (hBs : W.cell? ⟨Bs, 0, none⟩ = some (.slice a 0 cap)) (h0 : J [] W) :
    CallsIn F n Try.prog 56 #[.func (.yield l) #[] #[], .pointer (some ⟨Bs, 0, none⟩)] W fun e W' => (∃ v, e = .returned v) ∧ J [] W' := by
  refine callsIn_of_wp Try.func56 rfl hf ?_ hro
  simp only [Try.ntmps56, List.size_toArray, List.length_cons, List.length_nil, Nat.reduceAdd, Nat.reduceSub, Array.replicate_succ, Array.replicate_zero, List.push_toArray, List.append_toArray, List.nil_append, List.cons_append]
  gi_wp2
  gi_loopw [3] (fun i wr => i = .int .i64 (-1) ∧ J [] wr) (fun _ _ => 0)
  case atStart => exact ⟨rfl, h0⟩
  case round =>
    obtain ⟨rfl, hJs⟩ := hrel
    gi_wp2
    go_end0
    exact ⟨⟨_, rfl⟩, hJs⟩

set_option maxHeartbeats 1000000 in
theorem back_in (F : Fence) (n : Nat) (hf : F.fn 43) (hro : F.round = none) (a : Option Addr) (len cap : Nat) (w : World) :
    CallsIn F n Try.prog 43 #[.slice a len cap] w fun e w' => e = .returned (.func (.func 56) #[] #[.pointer (some ⟨w.heap.size, 0, none⟩)]) ∧ w' = w.alloc (.cells #[.slice a len cap] 23) := by
  refine callsIn_of_wp Try.func43 rfl hf ?_ hro
  simp only [Try.ntmps43, List.size_toArray, List.length_cons, List.length_nil, Nat.reduceAdd, Nat.reduceSub, Array.replicate_succ, Array.replicate_zero, List.push_toArray, List.append_toArray, List.nil_append, List.cons_append]
  gi_wp2
  go_ret
  exact ⟨rfl, rfl⟩

theorem back_stops (F : Fence) (n : Nat) (hf : F.fn 56) (hro : F.round = none) (hn : 1 ≤ n) (Bs : Nat) (a : Option Addr) (len cap : Nat) (ms : List M.MkD) (hl : len ≤ 1000000) (w : World) (hBs : Bs < w.heap.size)
    (hc : w.cell? ⟨Bs, 0, none⟩ = some (.slice a len cap)) (hM : M.Mks w a len cap ms) :
    SeqStopsK F n Try.prog 56 #[.pointer (some ⟨Bs, 0, none⟩)] (fun x : Int × M.MkD => #[Value.int .i64 x.1, .agg #[.int .i64 x.2.id, .int .i64 x.2.level, .int .i64 x.2.base]]) (Below w.heap.size) (fun ys => ys = M.down ms ms.length) (fun pre => ∃ k, k ≤ ms.length ∧ pre = M.down ms k) ms.length w := fun l J Jx W hW _ _ hY h0 => by
  have hc' := (hW.cell (p := ⟨Bs, 0, none⟩) hBs).trans hc
  obtain ⟨h1, -, -, h4⟩ := hM
  subst h1
  by_cases hp : 0 < ms.length
  · obtain ⟨b, off, rfl, hat⟩ := h4 hp
    have hb := World.block_lt_of_cell? w _ (hat 0 hp).1
    exact back1_in F n hf hro hn l Bs w.heap.size b off ms.length cap ms rfl hl hb hBs J Jx hY W hc' (hat.of_block (hW.block b hb)) h0
  · have e0 : ms.length = 0 := by omega
    rw [e0] at hc'
    refine (back1_nil_in F n hf hro l Bs cap a J W hc' h0).mono fun e W' ⟨he, hj⟩ => ⟨he, .inl ⟨[], ?_, hj⟩⟩
    rw [e0]; rfl
end Go.Proofs.Ytcpmfkmohfmaaaa
