/-
  A text of one byte, out of a slice of one.
-/
import Derived.Test.YtcoppfmigpdglabRows
import Derived.WalkKit
import Derived.WalkSpells
import Derived.WalkLawsBesides
namespace Go.Proofs.Ytcoppfmigpdglab
open Go.RowKit

theorem M.conv_byte (w : World) (z : Int) (h0 : 0 ≤ z) (h9 : z < 256) : (convert 87 9 (.slice (some ⟨w.heap.size, 0, none⟩) 1 1)).run Try.prog (w.alloc (.cells #[.int .u8 z] 5))
      = .ok (.string ⟨#[UInt8.ofNat z.toNat]⟩) (w.alloc (.cells #[.int .u8 z] 5)) := by
  refine run_convert_bytes_back (w.alloc _) _ _ 5 _ 1 [UInt8.ofNat z.toNat] Try.underlying87 Try.underlying5 Try.underlying9 fun j hj => ?_
  have hj0 : j = 0 := by simp at hj; omega
  subst hj0
  rw [Addr.add_lit, Nat.zero_add, World.cell?_alloc_mark]
  have e : ((UInt8.ofNat z.toNat).toNat : Int) = z := by
    rw [UInt8.toNat_ofNat']
    rw [Nat.mod_eq_of_lt (show z.toNat < 2 ^ 8 by omega)]; omega
  simp only [List.getElem_cons_zero, e]
  rfl
end Go.Proofs.Ytcoppfmigpdglab
