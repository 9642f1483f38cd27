/-
  PacketOf of the program answers as that of the specification, at every list of pieces and number.
-/
import Derived.Test.YtafenhodfoflbaaPktSW
import Derived.Test.YtafenhodfoflbaaStrWalks
import Derived.Test.YtafenhodfoflbaaIPktOf
import Derived.Test.YtafenhodfoflbaaSPktOf
namespace Go.Proofs.Ytafenhodfoflbaa
open Go.RowKit

set_option maxRecDepth 100000 in
set_option maxHeartbeats 1600000 in
theorem fnExactPacketOf_walk (a0 : Option Addr) (n c : Nat) (ss : List ByteArray) (k : Int) (w : World) (h : M.Strs w a0 n c ss) (hok : ∀ s ∈ ss, s.size ≤ maxLen) (_ : -9223372036854775808 ≤ k) (_ : k ≤ 9223372036854775807) :
    Calls Try.prog 7 #[.slice a0 n c, .int .i64 k] w fun e w' => e = .returned (.bool true) ∧ Below w.heap.size w w' := by
  have HS := M.hl h
  have HO := M.hl hok
  have HN : Hid (n = ss.length) := h.1
  clear h hok
  go_enter Try.func7, Try.ntmps7
  go_wp2_with fail
  refine (szStringS_any w a0 n c ss 1048576 HS.out HO.out (by omega) (by omega)).mono ?_
  rintro e w' ⟨v, rfl, hv1, hv2, rfl⟩
  have HV2 := M.hl hv2
  clear hv2
  by_cases hneg : v < 0
  · go_wp2
    go_ret
    exact ⟨rfl, Below.refl _ _⟩
  obtain ⟨hl1, -⟩ := HV2.out (by omega)
  clear HV2
  have CT : Hid (∀ W, Below w.heap.size w W → Calls Try.prog 37 #[.slice a0 n c] W fun e w' => ∃ b : Nat, e = .returned (.slice (some ⟨b, 0, none⟩) n n) ∧ M.Strs w' (some ⟨b, 0, none⟩) n n ss ∧ Below W.heap.size W w') := fun W hW =>
    (toStringS_any W a0 n c ss (HS.out.below hW) (by omega)).mono (by rintro e w' ⟨he, hat, -, hb⟩; exact ⟨_, he, ⟨HN.out, Nat.le_refl _, by unfold maxLen; omega, fun _ => ⟨_, 0, rfl, hat⟩⟩, hb⟩)
  go_wp2_with fail
  refine (CT.out w (Below.refl _ _)).mono ?_
  rintro e w2 ⟨p2, rfl, hs2, hb2⟩
  have S2 := M.hl hs2
  have B2 := M.hl hb2
  clear hs2 hb2
  have CS := M.hl (sPktOf_any w2 _ n n ss k S2.out HO.out)
  unfold M.pval at CS
  obtain ⟨p, hp⟩ : ∃ p, p = M.pof ss k := ⟨_, rfl⟩
  rw [← hp] at CS
  have HP := M.hl hp
  clear hp
  go_wp2_with fail
  refine CS.out.mono ?_
  rintro e w3 ⟨rfl, hb3⟩
  have B3 := M.hl (fun o => (M.sl B2.out hb3).alloc (M.sl B2.out hb3).size o)
  clear hb3 CS
  go_wp2_with fail
  refine (CT.out _ (B3.out _)).mono ?_
  rintro e w4 ⟨p4, rfl, hs4, hb4⟩
  have S4 := M.hl hs4
  have B34 := M.hl hb4
  have B4 := M.hl (M.sl (B3.out _) hb4)
  clear hs4 hb4
  have CI := iPktOf_any w4 _ n n ss k S4.out HO.out
  rw [← HP.out] at CI
  unfold M.pval at CI
  have HCI := M.hl CI
  clear CI
  go_wp2_with fail
  refine HCI.out.mono ?_
  rintro e w5 ⟨rfl, hb5⟩
  have B35 := M.hl (fun o => (M.sl B34.out hb5).alloc (M.sl B34.out hb5).size o)
  have B5 := M.hl (fun o => (M.sl B4.out hb5).alloc (M.sl B4.out hb5).size o)
  have S5 := M.hl (fun o => (S4.out.below hb5).below ((Below.refl _ _).alloc (Nat.le_refl _) o))
  have x0 : ∀ o, (w5.alloc o).cell? ⟨w3.heap.size, 0, none⟩ = some (.int .i64 p.q) := fun o => M.bxd (B35.out o) 0 _ rfl
  have x1 : ∀ o, (w5.alloc o).cell? ⟨w3.heap.size, 1, none⟩ = some (.bool p.l) := fun o => M.bxd (B35.out o) 1 _ rfl
  have x2 : ∀ o, (w5.alloc o).cell? ⟨w3.heap.size, 2, none⟩ = some (.string p.s) := fun o => M.bxd (B35.out o) 2 _ rfl
  have x3 : ∀ o, (w5.alloc o).cell? ⟨w3.heap.size, 3, none⟩ = some (.int .i64 p.c) := fun o => M.bxd (B35.out o) 3 _ rfl
  clear hb5 HCI S4 B4 B34
  go_wp2_with fail
  refine (eqPkt_same p.q p.l p.s p.c _).mono ?_
  rintro e w6 ⟨rfl, hb6⟩
  have B6 := M.hl (M.sl (B5.out _) hb6)
  have S6 := M.hl ((S5.out _).below hb6)
  clear hb6 x0 x1 x2 x3
  go_wp2_with fail
  refine (CT.out _ B6.out).mono ?_
  rintro e w7 ⟨p7, rfl, hs7, hb7⟩
  have S7 := M.hl hs7
  have S67 := M.hl (S6.out.below hb7)
  have B7 := M.hl (M.sl B6.out hb7)
  clear hs7 hb7
  go_wp2_with fail
  refine (eqStringS_any w7 _ _ n n n n ss ss S67.out S7.out).mono ?_
  rintro e w8 ⟨u, rfl, hu, hb8⟩
  obtain rfl := hu.2 rfl
  have B8 := M.hl (M.sl B7.out hb8)
  clear hb8 hu
  go_wp2
  go_ret
  exact ⟨rfl, B8.out⟩
end Go.Proofs.Ytafenhodfoflbaa
