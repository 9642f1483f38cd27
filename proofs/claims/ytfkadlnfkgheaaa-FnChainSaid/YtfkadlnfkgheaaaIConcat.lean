/-
  What slices.Grow of none and slices.Concat of numbers do.
-/
import Derived.Test.YtfkadlnfkgheaaaNumSW
import Derived.Lib.AppendZeros
import Derived.Laws.AppendOwnNone
namespace Go.Proofs.Ytfkadlnfkgheaaa
open Go.RowKit

set_option maxRecDepth 100000 in
set_option maxHeartbeats 1600000 in
theorem grow_any (w : World) (n : Nat) (hn : n ≤ 1000000) :
    Calls Try.prog 60 #[.slice none 0 0, .int .i64 n] w fun e w' => ∃ v, e = .returned v ∧ M.OwnN w' w.heap.size v [] ∧ Below w.heap.size w w' := by
  obtain ⟨i0, hi0, hz0, hz1, hz2⟩ := info_parts Try.infoN
  by_cases h0 : n = 0
  · subst h0
    go_enter Try.func60, Try.ntmps60
    go_wp2
    go_ret
    exact ⟨_, rfl, M.OwnN.nil _ _, Below.refl _ _⟩
  have hrun := fun ty => Lib.run_append_nil_zeros (P := Try.prog) w 26 3 ty 2 i0 (.int .i64 0) .i64 .i64 Try.underlying26 Try.underlying3 hi0 hz0 n (by omega) (by omega) (by omega) (by rw [hz2]; omega)
  have hG1 := grownCap_ge w n 0 2
  have hG2 := grownCap_le_maxLen w n 0 2 (by unfold maxLen; omega)
  generalize grownCap w n 0 2 = G at hrun hG1 hG2
  have HW : Hid (M.OwnN (w.drew.alloc (.cells (Builtin.zeroCells (Value.int .i64 0).cells n ++ Builtin.zeroCells (Value.int .i64 0).cells (G - n)) 2)) w.heap.size (.slice (some ⟨w.heap.size, 0, none⟩) 0 G) [] ∧ Below w.heap.size w (w.drew.alloc (.cells (Builtin.zeroCells (Value.int .i64 0).cells n ++ Builtin.zeroCells (Value.int .i64 0).cells (G - n)) 2))) := by
    refine ⟨M.NumsAt.own (zs := []) ⟨_, heap_alloc_new _ _, Nat.zero_le _, ?_, rfl⟩ hG2 (Nat.le_refl _), (Below.refl _ _).drew.alloc (Nat.le_refl _) _⟩
    rw [Array.size_append, size_zeroCells, size_zeroCells]
    simp [Value.cells]
    omega
  have dn : decide (0 < (n : Int)) = true := decide_eq_true (by omega)
  have hn0 : 0 < n := by omega
  generalize w.drew.alloc (.cells (Builtin.zeroCells (Value.int .i64 0).cells n ++ Builtin.zeroCells (Value.int .i64 0).cells (G - n)) 2) = W at hrun HW
  go_enter Try.func60, Try.ntmps60
  go_wp2_with (at_builtin; refine Lib.wpList_append_run _ rfl _ _ _ _ rfl _ _ rfl rfl _ _ (hrun _) ?_)
  go_ret
  exact ⟨_, rfl, HW.out.1, HW.out.2⟩

/-- A slice of slices of numbers, as it is read. -/
def M.RowsN (w : World) (a : Option Addr) (len : Nat) (zss : List (List Int)) : Prop := len = zss.length ∧ (0 < len → ∃ b off, a = some ⟨b, off, none⟩ ∧ ∀ i (h : i < zss.length), ∃ a' c', w.cell? ⟨b, off + i, none⟩ = some (.slice a' zss[i].length c') ∧ M.NV w a' zss[i].length zss[i] ∧ (a' = none → c' = 0))
theorem M.NV.below {w w' : World} {a : Option Addr} {len : Nat} {zs : List Int} (h : M.NV w a len zs) (hb : Below w.heap.size w w') : M.NV w' a len zs := ⟨h.1, fun hp => by
  obtain ⟨b, off, e, hat⟩ := h.2 hp
  exact ⟨b, off, e, fun i hi => (hb.cell (p := ⟨b, off + i, none⟩) (World.block_lt_of_cell? w _ (hat i hi))).trans (hat i hi)⟩⟩
theorem M.RowsN.below {w w' : World} {a : Option Addr} {len : Nat} {zss : List (List Int)} (h : M.RowsN w a len zss) (hb : Below w.heap.size w w') : M.RowsN w' a len zss := ⟨h.1, fun hp => by
  obtain ⟨b, off, e, hat⟩ := h.2 hp
  refine ⟨b, off, e, fun i hi => ?_⟩
  obtain ⟨a', c', h1, h2, h3⟩ := hat i hi
  exact ⟨a', c', (hb.cell (p := ⟨b, off + i, none⟩) (World.block_lt_of_cell? w _ h1)).trans h1, h2.below hb, h3⟩⟩
theorem M.take_snocL {zss : List (List Int)} {k : Nat} {z : List Int} (h : zss[k]? = some z) : zss.take (k + 1) = zss.take k ++ [z] := by
  rw [List.take_add_one, h]; rfl
theorem M.flat_le {zss : List (List Int)} (h : ∀ z ∈ zss, z.length ≤ 61) : ∀ k, (zss.take k).flatten.length ≤ 61 * k := fun k => by
  have h' : ∀ z ∈ zss.take k, z.length ≤ 61 := fun z hz => h z (List.mem_of_mem_take hz)
  have hk : (zss.take k).length ≤ k := by rw [List.length_take]; exact Nat.min_le_left _ _
  generalize zss.take k = l at h' hk
  clear h
  induction l generalizing k with
  | nil => simp
  | cons x l ih =>
    have h1 := h' x List.mem_cons_self
    simp only [List.length_cons] at hk
    have h2 := ih (k - 1) (fun z hz => h' z (List.mem_cons_of_mem _ hz)) (by omega)
    simp only [List.flatten_cons, List.length_append]
    omega
theorem M.NV.src {w : World} {ad : Addr} {len : Nat} {zs : List Int} (h : M.NV w (some ad) len zs) : ∀ j u, (zs.map M.nv)[j]? = some u → w.cell? (ad.add j) = some u := by
  intro j u hu
  obtain ⟨hj, e⟩ := List.getElem?_eq_some_iff.1 hu
  rw [List.length_map] at hj
  obtain ⟨b, off, e2, hat⟩ := h.2 (by rw [h.1]; omega)
  cases e2
  rw [Addr.add_lit, hat j hj, ← e]
  simp [M.nv]

set_option maxRecDepth 100000 in
set_option maxHeartbeats 3200000 in
theorem concat_any (w : World) (a : Option Addr) (len cap : Nat) (zss : List (List Int)) (h : M.RowsN w a len zss) (hl : len ≤ 400) (hz : ∀ z ∈ zss, z.length ≤ 61) :
    Calls Try.prog 54 #[.slice a len cap] w fun e w' => ∃ v, e = .returned v ∧ M.OwnN w' w.heap.size v zss.flatten ∧ Below w.heap.size w w' := by
  obtain ⟨i0, hi0, hz0, hz1, hz2⟩ := info_parts Try.infoN
  have HR := M.hidm h
  have HL : Hid (len = zss.length) := h.1
  have HZ := M.hidm hz
  clear h hz
  go_enter Try.func54, Try.ntmps54
  go_wp2
  go_loop [3, 11] (fun q i => ∃ (k s : Nat), i = .int .i64 k ∧ q = .int .i64 s ∧ k ≤ len ∧ s ≤ 61 * k) (fun _ i => len - (intOf i).toNat)
  case atStart => exact ⟨0, 0, rfl, rfl, Nat.zero_le _, Nat.le_refl _⟩
  case round =>
    obtain ⟨k, s, rfl, rfl, hk, hsk⟩ := hrel
    by_cases hlt : k < len
    · have hkm : k < zss.length := by have := HL.out; omega
      obtain ⟨b, off, rfl, hat⟩ := HR.out.2 (by omega)
      obtain ⟨a', c', c0, -, -⟩ := hat k hkm
      have hzk := HZ.out zss[k] (List.getElem_mem hkm)
      generalize zss[k].length = lz at c0 hzk
      have dd : decide ((s : Int) + (lz : Int) < 0) = false := decide_eq_false (by omega)
      clear hat hkm
      go_wp2
      go_round
      case rel => exact ⟨k + 1, s + lz, by go_num, by go_num, by omega, by omega⟩
      case measure => simp [intOf]; omega
    · obtain rfl : k = len := by omega
      have hs9 : s ≤ 1000000 := by omega
      go_wp2_with fail
      refine (grow_any w s hs9).mono ?_
      rintro e w1 ⟨v1, rfl, ho1, hb1⟩
      have O1 := M.hidm ho1
      have B1 := M.hidm hb1
      clear ho1 hb1
      go_wp2
      go_loopw [6, 27] (fun v i wr => ∃ j : Nat, i = .int .i64 j ∧ j ≤ k ∧ Hid (M.OwnN wr w.heap.size v (zss.take j).flatten) ∧ Hid (Below w.heap.size w wr)) (fun _ i _ => k - (intOf i).toNat)
      case atStart => exact ⟨0, rfl, Nat.zero_le _, (show M.OwnN _ _ _ _ by simpa using O1.out), B1⟩
      case round =>
        obtain ⟨j, rfl, hj, HO, HBr⟩ := hrel
        obtain ⟨av, cv, rfl, -⟩ := HO.out.nv
        by_cases hlt2 : j < k
        · have hjm : j < zss.length := by have := HL.out; omega
          obtain ⟨b, off, hbo, hat⟩ := (HR.out.below HBr.out).2 (by omega)
          subst hbo
          obtain ⟨a', c', c0, hNV, hnil⟩ := hat j hjm
          have hfl := M.flat_le HZ.out j
          have hzk := HZ.out zss[j] (List.getElem_mem hjm)
          have HEQ := M.hidm (M.take_snocL (List.getElem?_eq_getElem hjm))
          generalize zss[j]'hjm = cz at c0 hNV hzk HEQ
          have HE2 : Hid ((zss.take (j + 1)).flatten = (zss.take j).flatten ++ cz) := by show _ = _; rw [HEQ.out]; simp
          have hO1 := HO.out
          unfold M.OwnN at hO1
          have hsz := HBr.out.size
          clear hat hjm HEQ
          generalize (zss.take j).flatten = al at HO hO1 hfl HE2 ⊢
          cases a' with
          | none =>
            have hn0 : cz = [] := by
              obtain ⟨h1, h2⟩ := hNV
              by_cases hp : 0 < cz.length
              · obtain ⟨_, _, e, _⟩ := h2 hp; cases e
              · exact List.eq_nil_of_length_eq_zero (by omega)
            subst hn0
            have hc0 := hnil rfl
            subst hc0
            have HO2 : Hid (M.OwnN wr w.heap.size (.slice av al.length cv) (zss.take (j + 1)).flatten) := by show M.OwnN _ _ _ _; rw [HE2.out, List.append_nil]; exact HO.out
            have c0' : wr.cell? ⟨b, off + j, none⟩ = some (.slice none 0 0) := c0
            clear HO c0 hNV
            go_wp2_with (at_builtin; refine wpList_append_own_none rfl (.tmp 31) (.tmp 32) 26 rfl w.heap.size 2 i0 1 Try.underlying26 hi0 _ _ _ rfl hO1 rfl ?_)
            go_wp2
            go_roundw
            case rel => exact ⟨j + 1, by go_num, by omega, HO2, HBr⟩
            case measure => simp [intOf]; omega
          | some ad =>
            have hsrc := hNV.src
            clear HO hNV
            go_wp2_with (at_builtin; refine wpList_append_own _ rfl (.tmp 31) (.tmp 32) 26 rfl w.heap.size 2 i0 (.int .i64 0) 1 8 Try.underlying26 hi0 hz0 hz1 hz2 rfl (by decide) _ _ _ rfl hO1 ad cz.length c' (cz.map M.nv) rfl (by simp) hsrc ?c2 ?c3 ?c4 ?c5 ?_)
            case c2 => exact fun u hu => by obtain ⟨z, _, rfl⟩ := List.mem_map.1 hu; rfl
            case c3 => unfold maxLen; omega
            case c4 => omega
            case c5 => exact hsz
            intro v' w3 hown' hgrow _
            have HO2 : Hid (M.OwnN w3 w.heap.size v' (zss.take (j + 1)).flatten) := by
              show M.OwnN _ _ _ _
              rw [HE2.out]
              unfold M.OwnN
              rw [List.length_append, List.map_append]
              exact hown'
            have HB3 : Hid (Below w.heap.size w w3) := HBr.out.grown hgrow hsz (fun j hj => (World.ownsRow.lt hO1 j hj).1)
            clear hown' hgrow hO1 hsrc c0
            go_wp2
            go_roundw
            case rel => exact ⟨j + 1, by go_num, by omega, HO2, HB3⟩
            case measure => simp [intOf]; omega
        · obtain rfl : j = k := by omega
          have hall : zss.take j = zss := List.take_of_length_le (by have := HL.out; omega)
          rw [hall] at HO ⊢
          clear hall
          generalize zss.flatten.length = nl at HO ⊢
          go_wp2
          go_ret
          exact ⟨_, rfl, HO.out, HBr.out⟩
end Go.Proofs.Ytfkadlnfkgheaaa
