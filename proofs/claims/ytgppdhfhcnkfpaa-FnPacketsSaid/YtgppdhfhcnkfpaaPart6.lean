/-
  Bytes 0 as a text.
-/
import Derived.Test.YtgppdhfhcnkfpaaEdgeWalk
import Derived.Test.YtgppdhfhcnkfpaaPart5
import Derived.Lib.Strings
import Derived.Laws.OwnMore
namespace Go.Proofs.Ytgppdhfhcnkfpaa
open Go.RowKit

theorem M.zeros_conv {P : Program} {w w1 : World} {e src dst : TypeId} {n : Nat} (hs : P.underlying src = some (.slice e)) (he : P.underlying e = some (.int .u8)) (hd : P.underlying dst = some .string)
    (hown : w1.ownsRow w.heap.size e 1 (.slice (some ⟨w.heap.size, 0, none⟩) n n) n (madeCells #[Value.int .u8 0] n).toList) :
    (convert src dst (.slice (some ⟨w.heap.size, 0, none⟩) n n)).run P w1 = .ok (.string ⟨(List.replicate n (0 : UInt8)).toArray⟩) w1 := by
  refine M.conv_own hs he hd (l := List.replicate n 0) (base := w.heap.size) (n := n) ?_
  have e1 : (madeCells #[Value.int .u8 0] n).toList = M.cells (List.replicate n 0) := by
    simp [madeCells, M.cells]
    rw [List.eq_replicate_iff]
    exact ⟨by simp, by simp [Nat.mod_one]⟩
  rw [← e1]; exact hown
end Go.Proofs.Ytgppdhfhcnkfpaa

/-
  Draws of texts, told as far as the laws of chapter 2 need them.
-/
namespace Go.Proofs.Ytgppdhfhcnkfpaa
open Go.RowKit

theorem M.own_ne {w W : World} {g : Nat} {e : TypeId} {n : Nat} {v : Value} {xs : List Value} (h : W.ownsRow w.heap.size e 1 v n xs) (hg : g < w.heap.size) : v.ownBlock = none ∨ v.ownBlock ≠ some g := by
  cases hv : v.ownBlock with
  | none => exact .inl rfl
  | some k => exact .inr (fun e => by have := (h.lt k hv).1; have := Option.some.inj e; omega)
theorem M.grown_app {w W W1 : World} {g : Nat} {e : TypeId} {n : Nat} {v : Value} {xs : List Value} (h : w.grownBy W (some g)) (ho : W.ownsRow w.heap.size e 1 v n xs) (k : W.grownBy W1 v.ownBlock) : w.grownBy W1 (some g) :=
  ⟨k.os.trans h.os, k.tape.trans h.tape, k.output.trans h.output, Nat.le_trans h.size k.size, fun i hi hne => (k.block i (Nat.lt_of_lt_of_le hi h.size) (fun e => by have := (ho.lt i e.symm).1; omega)).trans (h.block i hi hne)⟩

set_option maxRecDepth 100000 in
set_option maxHeartbeats 800000 in
theorem src_bytes (w : World) (g len cap : Nat) (a : Option Addr) (n : Nat) (h : M.Src g a len cap w) (hn : n ≤ 100000) :
    Calls Try.prog 69 #[.pointer (some ⟨g, 0, none⟩), .int .i64 n] w fun e w' => ∃ l : List UInt8, e = .returned (.string ⟨l.toArray⟩) ∧ l.length = n ∧ M.Src g a len cap w' ∧ w.grownBy w' (some g) := by
  obtain ⟨i0, hi, hz0, hz1, hz2⟩ := info_parts Try.infoB
  have hgw := h.lt
  have HS : Hid (M.Src g a len cap w) := h
  clear h
  go_enter Try.func69, Try.ntmps69
  go_wp2
  go_loopw [5, 6] (fun v i wr => ∃ (acc : List UInt8) (k : Nat), i = .int .i64 k ∧ k ≤ n ∧ Hid (acc.length = k) ∧ wr.ownsRow w.heap.size 5 1 v acc.length (M.cells acc) ∧ Hid (M.Src g a len cap wr) ∧ Hid (w.grownBy wr (some g))) (fun _ i _ => n - (intOf i).toNat)
  case atStart => exact ⟨[], 0, rfl, Nat.zero_le _, rfl, ⟨rfl, .inr ⟨_, 0, #[], rfl, Nat.le_refl _, heap_alloc_new _ _, Nat.le_refl _, by decide, rfl, rfl⟩⟩, HS.out.alloc _, World.grownBy_alloc w _ (some g)⟩
  case round =>
    obtain ⟨acc, k, rfl, hk, HA, hown, HSr, HG⟩ := hrel
    by_cases hlt : k < n
    · have hal : acc.length ≤ 100000 := by have := HA.out; omega
      go_wp2_with fail
      refine (src_n _ g len cap a 256 HSr.out (by omega)).mono ?_
      rintro e w1 ⟨v, rfl, h0, h1, h2, hS, hg⟩
      have h256 := h1 (by omega)
      obtain ⟨v, rfl⟩ := Int.eq_ofNat_of_zero_le h0
      have hown1 := hown.kept hg (M.own_ne hown hgw)
      have HS1 : Hid (M.Src g a len cap w1) := hS
      have HG1 : Hid (w.grownBy w1 (some g)) := M.grown_trans HG.out hg
      have hsz : w.heap.size ≤ w1.heap.size := HG1.out.size
      clear h1 h2 hS hg hown
      go_wp2_with (at_builtin; refine wpList_append_own _ rfl (.tmp 13) (.tmp 17) 22 rfl w.heap.size 5 i0 (.int .u8 0) 1 1 Try.underlying22 hi hz0 hz1 hz2 rfl (by decide) _ _ _ rfl (hown1.alloc _) ⟨w1.heap.size, 0, none⟩ 1 1 [.int .u8 v] rfl rfl (cell_one_new _ _ _) ?c2 ?c3 ?c4 ?c5 ?_)
      case c2 => intro x hx; simp at hx; subst hx; rfl
      case c3 => unfold maxLen; omega
      case c4 => omega
      case c5 => simp; omega
      intro v' w2 hown' hgrow _
      rw [M.app_cells (u := v) (by omega) rfl] at hown'
      have HS2 : Hid (M.Src g a len cap w2) := (HS1.out.alloc _).kept hgrow (fun k hk => by have := ((hown1.alloc (.cells #[.int .u8 v] 5)).lt k hk).1; omega)
      have HG2 : Hid (w.grownBy w2 (some g)) := M.grown_app (M.grown_trans HG1.out (World.grownBy_alloc w1 (.cells #[.int .u8 v] 5) (some g))) (hown1.alloc _) hgrow
      clear hgrow hown1
      go_wp2
      go_roundw
      case rel => exact ⟨acc ++ [UInt8.ofNat v], k + 1, by go_num, by omega, by show _ = _; rw [List.length_append, HA.out]; rfl, by rw [List.length_append]; exact hown', HS2, HG2⟩
      case measure => simp [intOf]; omega
    · have hcv := M.conv_own Try.underlying22 Try.underlying5 Try.underlying9 hown
      clear hown
      go_wp2
      go_ret
      exact ⟨acc, rfl, by have := HA.out; omega, HSr.out, HG.out⟩
end Go.Proofs.Ytgppdhfhcnkfpaa

/-
  What l06Text and DrawPiecesOf of the specification draw: some text, not too long.
-/
namespace Go.Proofs.Ytgppdhfhcnkfpaa
open Go.RowKit

theorem M.hdp {p : Prop} (h : p) : Hid p := h
theorem M.made_u8 (n : Nat) : (madeCells #[Value.int .u8 0] n).toList = List.replicate n (Value.int .u8 0) := toList_madeCells_one _ n
/-- A row of so many bytes that was just made, as a text. -/
theorem M.conv_made {w w1 : World} {n : Nat} {xs : List Value} (hown : w1.ownsRow w.heap.size 5 1 (.slice (some ⟨w.heap.size, 0, none⟩) n n) n xs) (hx : xs = List.replicate n (.int .u8 0)) :
    (convert 22 9 (.slice (some ⟨w.heap.size, 0, none⟩) n n)).run Try.prog w1 = .ok (.string ⟨(List.replicate n (0 : UInt8)).toArray⟩) w1 := by
  obtain ⟨hl, h | ⟨g, cap, cur, hv, hb, hh, hn, hc, hz, ht⟩⟩ := hown
  · simp at h
  · simp only [Value.slice.injEq, Option.some.injEq, Addr.mk.injEq] at hv
    obtain ⟨⟨rfl, _, _⟩, _, rfl⟩ := hv
    have hr := run_convert_bytes_back (P := Try.prog) w1 22 9 5 ⟨w.heap.size, 0, none⟩ n (List.replicate n (0 : UInt8)) Try.underlying22 Try.underlying5 Try.underlying9 (fun i hi => by
      rw [List.length_replicate] at hi
      rw [Addr.add_lit, Nat.zero_add]
      have e : xs[i]? = some (.int .u8 0) := by rw [hx]; simp [hi]
      rw [← ht, Nat.mul_one, List.getElem?_take_of_lt hi] at e
      simp only [World.cell?, hh, List.getElem_replicate]
      simpa using e)
    rw [List.length_replicate] at hr
    exact hr

set_option maxRecDepth 100000 in
set_option maxHeartbeats 1600000 in
theorem src_text6 (w : World) (g len cap : Nat) (a : Option Addr) (h : M.Src g a len cap w) :
    Calls Try.prog 47 #[.pointer (some ⟨g, 0, none⟩)] w fun e w' => ∃ t : ByteArray, e = .returned (.string t) ∧ t.size ≤ 400 ∧ M.Src g a len cap w' ∧ w.grownBy w' (some g) := by
  obtain ⟨i0, hi, hz0, hz1, hz2⟩ := info_parts Try.infoB
  have HS := M.hdp h
  clear h
  go_enter Try.func47, Try.ntmps47
  go_wp2_with fail
  refine (src_n _ g len cap a 20 HS.out (by omega)).mono ?_
  rintro e w1 ⟨v, rfl, h0, h1, h2, hS, hg⟩
  have h20 := h1 (by omega)
  obtain ⟨v, rfl⟩ := Int.eq_ofNat_of_zero_le h0
  have HS1 := M.hdp hS
  have HG1 := M.hdp hg
  clear h1 h2 hS hg
  go_wp2_with fail
  refine (src_bytes _ g len cap a v HS1.out (by omega)).mono ?_
  rintro e w2 ⟨l, rfl, hl, hS, hg⟩
  have HS2 := M.hdp hS
  have HG2 := M.hdp (M.grown_trans HG1.out hg)
  have hls : (⟨l.toArray⟩ : ByteArray).size ≤ 20 := by rw [Lib.size_eq]; show l.length ≤ _; omega
  generalize (⟨l.toArray⟩ : ByteArray) = t0 at hls
  clear hS hg hl
  go_wp2_with fail
  refine (src_n _ g len cap a 6 HS2.out (by omega)).mono ?_
  rintro e w3 ⟨k, rfl, k0, k1, k2, hS, hg⟩
  have k6 := k1 (by omega)
  obtain ⟨k, rfl⟩ := Int.eq_ofNat_of_zero_le k0
  have HS3 := M.hdp hS
  have HG3 := M.hdp (M.grown_trans HG2.out hg)
  clear k1 k2 hS hg
  go_wp2
  go_loopw [3, 4] (fun x y wr => ∃ (t : ByteArray) (j : Nat), x = .string t ∧ y = .int .i64 (j : Int) ∧ j ≤ 6 ∧ t.size + 51 * j ≤ 330 ∧ Hid (M.Src g a len cap wr) ∧ Hid (w.grownBy wr (some g))) (fun _ y _ => (intOf y).toNat)
  case atStart => exact ⟨t0, k, rfl, rfl, by omega, by omega, HS3, HG3⟩
  case round =>
    obtain ⟨t, j, rfl, rfl, hj, hts, HSr, HGr⟩ := hrel
    by_cases hz : 0 < j
    · have dj : decide (0 < j) = true := decide_eq_true hz
      have dj' : decide (0 < (j : Int)) = true := decide_eq_true (by omega)
      go_wp2_with (at_make; refine wpList_make_full _ rfl (.const (.int .i64 50)) (.const (.int .i64 50)) 22 rfl wr.heap.size 5 i0 (.int .u8 0) 1 Try.underlying22 hi hz0 hz1 .i64 .i64 _ _ 50 rfl rfl rfl rfl ?c3 ?c4 ?c5 ?_)
      case c3 => rw [hz2]; omega
      case c4 => unfold maxLen; omega
      case c5 => exact Nat.le_refl _
      intro w5 hown hgrow
      have hcv := M.conv_made hown (M.made_u8 50)
      have hc50 : (⟨(List.replicate 50 (0 : UInt8)).toArray⟩ : ByteArray).size = 50 := rfl
      have HB5 : Hid (M.Src g a len cap w5) := HSr.out.kept hgrow (fun k hk => by cases hk)
      have HG5 : Hid (w.grownBy w5 (some g)) := HGr.out.trans ⟨hgrow.os, hgrow.tape, hgrow.output, hgrow.size, fun k hk _ => hgrow.block k hk (by simp)⟩
      generalize (⟨(List.replicate 50 (0 : UInt8)).toArray⟩ : ByteArray) = z at hcv hc50
      have had1 := fun W => run_string_add_sum (P := Try.prog) (w := W) t z (by omega)
      have had2 := fun W => run_string_add_sum (P := Try.prog) (w := W) (t ++ z) ⟨#[120]⟩ (by rw [ByteArray.size_append]; show t.size + z.size + 1 ≤ _; omega)
      have hsz : (t ++ z ++ (⟨#[120]⟩ : ByteArray)).size = t.size + 51 := by rw [ByteArray.size_append, ByteArray.size_append]; show t.size + z.size + 1 = _; omega
      have HSZ := M.hdp hsz
      clear hown hgrow hsz
      go_wp2
      go_roundw
      case rel => exact ⟨t ++ z ++ ⟨#[120]⟩, j - 1, rfl, by go_num, by omega, by rw [HSZ.out]; omega, HB5, HG5⟩
      case measure => simp [intOf]; omega
    · have dj : decide (0 < j) = false := decide_eq_false hz
      have dj' : decide (0 < (j : Int)) = false := decide_eq_false (by omega)
      go_wp2
      go_ret
      exact ⟨t, rfl, by omega, HSr.out, HGr.out⟩

set_option maxRecDepth 100000 in
set_option maxHeartbeats 1600000 in
theorem drawPieces_any (w : World) (a : Option Addr) (len cap : Nat) (hR : M.IsRow w a len cap) :
    Calls Try.prog 9 #[.slice a len cap] w fun e w' => ∃ t : ByteArray, e = .returned (.string t) ∧ t.size ≤ 20000 ∧ Below w.heap.size w w' := by
  obtain ⟨i0, hi, hz0, hz1, hz2⟩ := info_parts Try.infoB
  have HR := M.hdp hR
  clear hR
  go_enter Try.func9, Try.ntmps9
  go_wp2_with fail
  refine (source_any _ a len cap HR.out).mono ?_
  rintro e w1 ⟨rfl, hS, hb⟩
  have HS1 := M.hdp hS
  have HB := M.hdp hb
  clear hS hb
  have UP : Hid (∀ {W W' : World}, Below w.heap.size w W → W.grownBy W' (some w.heap.size) → Below w.heap.size w W') := fun hB hg => hB.grown hg hB.size (fun k hk => by have := Option.some.inj hk; omega)
  go_wp2_with fail
  refine (src_one _ _ len cap a 20 HS1.out (by omega)).mono ?_
  rintro e w2 ⟨v, rfl, hS, hg⟩
  have HS2 := M.hdp hS
  have HB2 := M.hdp (UP.out HB.out hg)
  clear hS hg
  cases v
  · go_wp2_with fail
    refine (src_text6 _ _ len cap a HS2.out).mono ?_
    rintro e w3 ⟨t, rfl, ht, hS, hg⟩
    have HB3 := M.hdp (UP.out HB2.out hg)
    clear hS hg
    go_wp2
    go_ret
    exact ⟨t, rfl, by omega, HB3.out⟩
  · go_wp2_with fail
    refine (src_n _ _ len cap a 3 HS2.out (by omega)).mono ?_
    rintro e w3 ⟨k, rfl, k0, k1, k2, hS, hg⟩
    have k3 := k1 (by omega)
    obtain ⟨k, rfl⟩ := Int.eq_ofNat_of_zero_le k0
    have HB3 := M.hdp (UP.out HB2.out hg)
    clear k1 k2 hS hg
    go_wp2_with (at_make; refine wpList_make_full _ rfl (.tmp 10) (.tmp 10) 22 rfl w3.heap.size 5 i0 (.int .u8 0) 1 Try.underlying22 hi hz0 hz1 .i64 .i64 _ _ (19199 + k) rfl rfl ?c1 ?c2 ?c3 ?c4 ?c5 ?_)
    case c1 => omega
    case c2 => omega
    case c3 => rw [hz2]; omega
    case c4 => unfold maxLen; omega
    case c5 => exact Nat.le_refl _
    intro w5 hown hgrow
    have hcv := M.conv_made hown (M.made_u8 _)
    have HB5 := M.hdp (HB3.out.grown hgrow HB3.out.size (fun k hk => by cases hk))
    have hsz : (⟨(List.replicate (19199 + k) (0 : UInt8)).toArray⟩ : ByteArray).size = 19199 + k := by rw [Lib.size_eq]; simp
    generalize (⟨(List.replicate (19199 + k) (0 : UInt8)).toArray⟩ : ByteArray) = z at hcv hsz
    clear hown hgrow
    go_wp2
    go_ret
    exact ⟨z, rfl, by omega, HB5.out⟩
end Go.Proofs.Ytgppdhfhcnkfpaa
