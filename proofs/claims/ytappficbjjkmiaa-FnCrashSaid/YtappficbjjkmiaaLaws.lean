/-
  Small laws over any program: the text that is made of bytes that the call itself owns.
-/
import Derived.Test.YtappficbjjkmiaaMath
import Derived.WalkKit
import Derived.WalkSpells
import Derived.WalkLawsBesides
import Derived.Laws.IdiomStrings
namespace Go.Proofs.Ytappficbjjkmiaa.M
open Go.RowKit
variable {P : Program}

/-- 'string(b)', b a row of the call's own. -/
theorem conv_own {w : World} {base n : Nat} {src dst e : TypeId} {v : Value} {l : List UInt8} (hs : P.underlying src = some (.slice e)) (he : P.underlying e = some (.int .u8)) (hd : P.underlying dst = some .string)
    (hown : w.ownsRow base e 1 v n (cells l)) : (convert src dst v).run P w = .ok (.string ⟨l.toArray⟩) w := by
  obtain ⟨hl, h | ⟨g, cap, cur, rfl, hb, hh, hn, hc, hz, ht⟩⟩ := hown
  · obtain ⟨rfl, rfl⟩ := h
    rw [cells_length] at hl
    obtain rfl : l = [] := List.eq_nil_of_length_eq_zero (by omega)
    rw [run_convert_bytes_string w src dst e none 0 0 hs he hd]
    simp [Conv.bytesToString, Sem.run_pure]
    rfl
  · rw [cells_length, Nat.mul_one] at hl
    subst hl
    refine run_convert_bytes_back w src dst e _ cap l hs he hd fun j hj => ?_
    have h1 : cur[j]? = some (.int .u8 (l[j].toNat : Int)) := by
      have : (cur.toList.take (l.length * 1))[j]? = some (.int .u8 (l[j].toNat : Int)) := by
        rw [ht]; simp [cells, List.getElem?_eq_getElem hj]
      rw [List.getElem?_take, if_pos (by omega)] at this
      simpa using this
    rw [Addr.add_lit, Nat.zero_add]
    simp [World.cell?, hh, h1]

theorem one_cellL {u : Nat} (h : u < 256) (z : Int) (hz : z = (u : Int)) : [Value.int .u8 z] = cells [UInt8.ofNat u] := by
  subst hz; simp only [cells, List.map_cons, List.map_nil, toNat_ofNat h]

/-- Behind 'b = append(b, x)', b the call's own: nothing below has turned. -/
theorem app_below {w wr w1 : World} {o : Obj} {e : TypeId} {size n : Nat} {v : Value} {xs : List Value} (hbel : Below w.heap.size w wr) (hown : wr.ownsRow w.heap.size e size v n xs)
    (hg : (wr.alloc o).grownBy w1 v.ownBlock) : Below w.heap.size w w1 :=
  (hbel.alloc hbel.size o).grown hg (by have := hbel.size; simp; omega) (fun k hk => (hown.lt k hk).1)
theorem app_cells {acc : List UInt8} {u : Nat} {z : Int} (h : u < 256) (hz : z = (u : Int)) : cells acc ++ [Value.int .u8 z] = cells (acc ++ [UInt8.ofNat u]) := by
  rw [cells_append, one_cellL h z hz]
end Go.Proofs.Ytappficbjjkmiaa.M
