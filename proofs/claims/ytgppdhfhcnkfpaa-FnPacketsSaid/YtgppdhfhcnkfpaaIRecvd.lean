/-
  What Received of the program does.
-/
import Derived.Test.YtgppdhfhcnkfpaaPart4
import Derived.Test.YtgppdhfhcnkfpaaRcvdMath
import Derived.Test.YtgppdhfhcnkfpaaPart8
import Derived.Test.YtgppdhfhcnkfpaaPart5
namespace Go.Proofs.Ytgppdhfhcnkfpaa
open Go.RowKit

set_option maxRecDepth 100000 in
set_option maxHeartbeats 1600000 in
theorem iRecvd_any (w : World) (a : Option Addr) (n c : Nat) (ss : List ByteArray) (x : Int) (h : M.Strs w a n c ss) (hok : ∀ s ∈ ss, s.size ≤ maxLen) :
    Calls Try.prog 17 #[.agg #[.slice a n c, .int .i64 x]] w fun e w' => e = .returned (.string (M.rcvd ss x)) ∧ Below w.heap.size w w' := by
  obtain ⟨i0, hi, hz0, hz1, hz2⟩ := info_parts Try.infoB
  have hlm : n ≤ 9223372036854775807 := by obtain ⟨_, h1, h2, _⟩ := h; unfold maxLen at h2; omega
  have HB : Hid (∀ o, Below w.heap.size w (w.alloc o)) := fun o => (Below.refl _ _).alloc (Nat.le_refl _) _
  have CR : Hid (∀ o, Calls Try.prog 28 #[.agg #[.slice a n c, .int .i64 x]] (w.alloc o) fun e w' => e = .returned (.bool (M.rcvR ss x)) ∧ Below (w.alloc o).heap.size (w.alloc o) w') := fun o => iRecvR_any _ a n c ss x (h.below (HB.out o)) hok
  have HN : Hid (n = ss.length) := h.1
  have HF := M.hl h
  clear h hok
  cases hr : M.rcvR ss x
  · have hE : M.rcvd ss x = ⟨#[]⟩ := by unfold M.rcvd; rw [if_neg (fun h => by rw [hr] at h; cases h.1)]
    rw [hE]
    rw [hr] at CR
    clear hr hE
    go_enter Try.func17, Try.ntmps17
    go_wp2_with fail
    refine (CR.out _).mono ?_
    rintro e w1 ⟨rfl, hb⟩
    have B1 := M.hl (M.bxd_below hb)
    clear hb
    go_wp2
    go_ret
    exact ⟨rfl, B1.out⟩
  by_cases hx : x = -1
  case neg =>
    have hE : M.rcvd ss x = ⟨#[]⟩ := by unfold M.rcvd; rw [if_neg (fun h => hx h.2)]
    rw [hE]
    rw [hr] at CR
    have d1 : ((x : Int) != -1) = true := by rw [bne_iff_ne]; exact hx
    have d1' : ((x : Int) == -1) = false := by rw [beq_eq_false_iff_ne]; exact hx
    clear hr hE hx
    go_enter Try.func17, Try.ntmps17
    go_wp2_with fail
    refine (CR.out _).mono ?_
    rintro e w1 ⟨rfl, hb⟩
    have B1 := M.hl (M.bxd_below hb)
    have x1 : w1.cell? ⟨w.heap.size, 1, none⟩ = some (.int .i64 x) := M.bxd hb 1 _ rfl
    clear hb
    go_wp2
    go_ret
    exact ⟨rfl, B1.out⟩
  subst hx
  have HE : Hid (M.rcvd ss (-1) = ⟨(M.cat ss).toArray⟩) := by show _ = _; unfold M.rcvd; rw [if_pos ⟨hr, rfl⟩]
  have h300 := (M.rcvR_fits hr).1
  have H64 := M.hl (M.rcvR_fits hr).2
  have hn3 : n ≤ 300 := by have := HN.out; omega
  rw [hr] at CR
  clear hr h300
  go_enter Try.func17, Try.ntmps17
  go_wp2_with fail
  refine (CR.out _).mono ?_
  rintro e w1 ⟨rfl, hb⟩
  have B1 := M.hl hb
  have x0 : w1.cell? ⟨w.heap.size, 0, none⟩ = some (.slice a n c) := M.bxd hb 0 _ rfl
  have x1 : w1.cell? ⟨w.heap.size, 1, none⟩ = some (.int .i64 (-1)) := M.bxd hb 1 _ rfl
  clear hb
  go_wp2
  go_loopw [3, 17] (fun v i wr => ∃ (k : Nat) (L : List UInt8), i = .int .i64 k ∧ k ≤ n ∧ L.length ≤ 64 * k ∧ Hid (L = M.cat (ss.take k)) ∧ Hid (M.OwnB wr (w.heap.size + 1) v L) ∧ Hid (Below (w.alloc (.cells #[.slice a n c, .int .i64 (-1)] 27)).heap.size (w.alloc (.cells #[.slice a n c, .int .i64 (-1)] 27)) wr)) (fun _ i _ => n - (intOf i).toNat)
  case atStart => exact ⟨0, [], rfl, Nat.zero_le _, Nat.le_refl _, rfl, ⟨rfl, .inl ⟨rfl, rfl⟩⟩, B1⟩
  case round =>
    obtain ⟨k, L, rfl, hk, hLk, HL, HO, HBr⟩ := hrel
    have hsz : w.heap.size + 1 ≤ wr.heap.size := by have := HBr.out.size; simpa using this
    by_cases hlt : k < n
    · obtain ⟨hfl, -, -, hfa⟩ := HF.out.below (M.bxd_below HBr.out)
      obtain ⟨b, off, rfl, hat⟩ := hfa (by omega)
      have c0 := hat k (by omega)
      have hfk := List.getElem?_eq_getElem (l := ss) (i := k) (by omega)
      generalize ss[k]'(by omega) = s at c0 hfk
      have HFK := M.hl hfk
      have o1 : s.size ≤ 64 := H64.out s (List.mem_of_getElem? hfk)
      clear hfk hat hfa hfl
      go_wp2_with (at_builtin; refine Lib.wpList_append_own_string _ rfl (.tmp 21) (.tmp 22) 22 9 rfl (w.heap.size + 1) 5 i0 Try.underlying22 Try.underlying9 hi hz0 hz1 hz2 _ _ _ rfl HO.out s rfl ?c1 ?c2 ?c3 ?_)
      case c1 => unfold maxLen; omega
      case c2 => omega
      case c3 => exact hsz
      intro v' w2 hown' hgrow _
      have HO2 : Hid (M.OwnB w2 (w.heap.size + 1) v' (L ++ s.data.toList)) := M.OwnB.more hown'
      have HB2 : Hid (Below (w.alloc (.cells #[.slice (some ⟨b, off, none⟩) n c, .int .i64 (-1)] 27)).heap.size (w.alloc (.cells #[.slice (some ⟨b, off, none⟩) n c, .int .i64 (-1)] 27)) w2) := HBr.out.grown hgrow HBr.out.size (fun k hk => by have := (World.ownsRow.lt HO.out k hk).1; simpa using this)
      have HL2 : Hid (L ++ s.data.toList = M.cat (ss.take (k + 1))) := by show _ = _; rw [M.cat_snoc HFK.out, ← HL.out]
      have hl2 : (L ++ s.data.toList).length ≤ 64 * (k + 1) := by rw [List.length_append, ← Lib.size_eq]; omega
      clear hgrow hown' c0
      go_wp2
      go_roundw
      case rel => exact ⟨k + 1, L ++ s.data.toList, by go_num, by omega, hl2, HL2, HO2, HB2⟩
      case measure => simp [intOf]; omega
    · have HE2 : Hid ((⟨L.toArray⟩ : ByteArray) = M.rcvd ss (-1)) := by
        show _ = _
        rw [HE.out, HL.out, List.take_of_length_le (by have := HN.out; omega)]
      have hcv := M.OwnB.conv HO.out (Below.refl _ _)
      go_wp2
      go_ret
      exact ⟨by rw [← HE2.out]; rfl, M.bxd_below HBr.out⟩
end Go.Proofs.Ytgppdhfhcnkfpaa
