/-
  The packets of a text: they are right, come together to it, and are not right with a byte turned.
-/
import Derived.Test.YtgppdhfhcnkfpaaPcsMath
import Derived.Test.YtgppdhfhcnkfpaaPart3
import Derived.Test.YtgppdhfhcnkfpaaRcvdMath
import Derived.Test.YtgppdhfhcnkfpaaIRecvAt
import Derived.Test.YtgppdhfhcnkfpaaCrcTurn
namespace Go.Proofs.Ytgppdhfhcnkfpaa
open Go.RowKit

theorem M.pieces_at {t s : ByteArray} {i : Nat} (h : (M.pieces t)[i]? = some s) : s.size ≤ 64 ∧ (i + 1 < (M.pieces t).length → s.size = 64) := by
  unfold M.pieces at h ⊢
  rw [List.length_append, M.pcs_len]
  by_cases hi : i < (t.size - 1) / 64
  · rw [List.getElem?_append_left (by rw [M.pcs_len]; exact hi)] at h
    unfold M.pcs at h
    rw [List.getElem?_map, List.getElem?_range hi] at h
    obtain rfl := Option.some.inj h
    rw [M.cut_size t (by omega) (by omega)]
    exact ⟨by omega, fun _ => by omega⟩
  · rw [List.getElem?_append_right (by rw [M.pcs_len]; omega), M.pcs_len] at h
    have h0 : i - (t.size - 1) / 64 = 0 := by
      by_cases e : i - (t.size - 1) / 64 = 0
      · exact e
      · rw [List.getElem?_eq_none (by simp; omega)] at h; cases h
    rw [h0] at h
    obtain rfl := Option.some.inj h
    rw [M.cut_size t (by omega) (by omega)]
    exact ⟨by omega, fun h => by simp at h; omega⟩
theorem M.pieces_fit {t : ByteArray} (h : t.size ≤ 19200) : M.fits (M.pieces t) = true :=
  M.fits_iff.2 ⟨(M.pieces_len h).2, fun s hs => by obtain ⟨i, hi⟩ := List.getElem?_of_mem hs; exact (M.pieces_at hi).1⟩
theorem M.pcs_cat (t : ByteArray) : ∀ k, 64 * k ≤ t.size → M.cat (M.pcs t k) = t.data.toList.take (64 * k)
  | 0, _ => by simp [M.pcs, M.cat]
  | k + 1, h => by
    have e : M.cat (M.pcs t k ++ [M.cut t (64 * k) (64 * k + 64)]) = M.cat (M.pcs t k) ++ (M.cut t (64 * k) (64 * k + 64)).data.toList := by simp [M.cat]
    rw [M.pcs_snoc, e, M.pcs_cat t k (by omega)]
    show _ ++ (t.data.toList.drop (64 * k)).take (64 * k + 64 - 64 * k) = _
    rw [show 64 * (k + 1) = 64 * k + 64 by omega, List.take_add, Nat.add_sub_cancel_left]
theorem M.pieces_cat (t : ByteArray) : M.cat (M.pieces t) = t.data.toList := by
  have e : ∀ (xs : List ByteArray) (b : ByteArray), M.cat (xs ++ [b]) = M.cat xs ++ b.data.toList := fun xs b => by simp [M.cat]
  unfold M.pieces
  rw [e, M.pcs_cat t _ (by omega)]
  show _ ++ (t.data.toList.drop (64 * ((t.size - 1) / 64))).take (t.size - 64 * ((t.size - 1) / 64)) = _
  have e2 : (t.data.toList.drop (64 * ((t.size - 1) / 64))).take (t.size - 64 * ((t.size - 1) / 64)) = t.data.toList.drop (64 * ((t.size - 1) / 64)) := List.take_of_length_le (by rw [List.length_drop, M.lenL]; exact Nat.le_refl _)
  rw [e2, List.take_append_drop]
theorem M.pkt_right {ss : List ByteArray} {i : Nat} {s : ByteArray} (hf : M.fits ss = true) (h : ss[i]? = some s) : M.pktR (M.pmk ss i s).q (M.pmk ss i s).l (M.pmk ss i s).s (M.pmk ss i s).c = true := by
  have h1 := M.fits_iff.1 hf
  have hi := (List.getElem?_eq_some_iff.1 h).1
  unfold M.pktR M.pmk
  simp only
  rw [decide_eq_true (by omega), decide_eq_true (h1.2 s (List.mem_of_getElem? h))]
  simp
/-- What a receiver of the first i packets wants. -/
def M.wantI (n i : Nat) : Int := if i = n then -1 else (i : Int)
theorem M.rcv_take {t : ByteArray} {i : Nat} (h : t.size ≤ 19200) (hi : i ≤ (M.pieces t).length) : M.rcvR ((M.pieces t).take i) (M.wantI (M.pieces t).length i) = true := by
  have hl := M.pieces_len h
  rw [M.rcvR_iff]
  have hlt : ((M.pieces t).take i).length = i := by rw [List.length_take]; omega
  rw [hlt]
  unfold M.wantI
  refine ⟨by omega, ?_, fun j s hj => ?_⟩
  · split
    · exact .inr ⟨rfl, by omega⟩
    · exact .inl rfl
  · have hj2 : j < i := by have := (List.getElem?_eq_some_iff.1 hj).1; omega
    rw [List.getElem?_take_of_lt hj2] at hj
    have h1 := M.pieces_at hj
    refine ⟨h1.1, fun hs => ⟨fun hc => ?_, ?_⟩⟩
    · have := h1.2 (by omega); omega
    · by_cases e : j + 1 < (M.pieces t).length
      · have := h1.2 e; omega
      · rw [if_pos (by omega)]
theorem M.recv_step {t s : ByteArray} {i : Nat} (h : (M.pieces t)[i]? = some s) : M.recv ((M.pieces t).take i) (M.wantI (M.pieces t).length i) (M.pmk (M.pieces t) i s).q (M.pmk (M.pieces t) i s).l s = ((M.pieces t).take (i + 1), M.wantI (M.pieces t).length (i + 1), 0) := by
  have hi := (List.getElem?_eq_some_iff.1 h).1
  have h1 := M.pieces_at h
  unfold M.recv M.pmk M.wantI
  simp only
  rw [if_neg (show ¬ i = (M.pieces t).length by omega), if_pos rfl, List.take_add_one, h]
  by_cases e : i + 1 = (M.pieces t).length
  · have hb : ((i : Int) == ((M.pieces t).length : Int) - 1) = true := by rw [beq_iff_eq]; omega
    rw [hb, if_pos (.inl rfl), if_pos e]
    rfl
  · have hb : ((i : Int) == ((M.pieces t).length : Int) - 1) = false := by rw [beq_eq_false_iff_ne]; omega
    rw [hb, if_pos (.inr (h1.2 (by omega))), if_neg e]
    simp
theorem M.pkt_turned {q : Int} {l : Bool} {s s' : ByteArray} (hs : s.size ≤ 64) (x y : List UInt8) (c d : UInt8) (h : s.data.toList = x ++ c :: y) (h' : s'.data.toList = x ++ d :: y) (hne : c ≠ d) : M.pktR q l s' (M.pcrc q l s) = false := by
  have n1 := M.num_size q
  have n2 := M.num_size (M.lastN l)
  have hs' : s'.size = s.size := by rw [Lib.size_eq, Lib.size_eq, h, h']; simp
  have hb : (M.pcrc q l s == M.pcrc q l s') = false := by
    rw [beq_eq_false_iff_ne]
    intro e
    unfold M.pcrc at e
    rw [M.crcMore0 (by simp only [ByteArray.size_append]; omega), M.crcMore0 (by simp only [ByteArray.size_append]; omega)] at e
    have r1 := M.crcReg_lt (r := 4294967295) (by omega) (M.num q ++ M.num (M.lastN l) ++ s).data.toList
    have r2 := M.crcReg_lt (r := 4294967295) (by omega) (M.num q ++ M.num (M.lastN l) ++ s').data.toList
    have e2 : M.crcReg 4294967295 (M.num q ++ M.num (M.lastN l) ++ s).data.toList = M.crcReg 4294967295 (M.num q ++ M.num (M.lastN l) ++ s').data.toList := by omega
    have hd : ∀ z : ByteArray, (M.num q ++ M.num (M.lastN l) ++ z).data.toList = (M.num q ++ M.num (M.lastN l)).data.toList ++ z.data.toList := fun z => by
      rw [ByteArray.data_append]; simp
    rw [hd, hd, h, h', ← List.append_assoc, ← List.append_assoc] at e2
    exact hne (M.crcReg_turned (by omega) _ _ c d e2)
  unfold M.pktR
  rw [hb, Bool.and_false]
end Go.Proofs.Ytgppdhfhcnkfpaa
