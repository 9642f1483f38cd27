/-
  A law over any program: a scope in which the run jumps between several labels.
-/
import Derived.WalkKit
import Derived.ScopeJumps
import Derived.WalkMore
namespace Go.Proofs.Ytpokcbcffijheaa.M

/-- As Q; by a goto to a label: what holds there. -/
def jumpM (J : Nat → Act → World → Prop) (Q : Exit → Act → World → Prop) : Exit → Act → World → Prop
  | .goto l, a, w => J l a w
  | e, a, w => Q e a w

section
variable {P : Program} {a : Act} {w : World} {Q : Exit → Act → World → Prop}

theorem wp_scope_multi {c : Code} (J : Nat → Act → World → Prop) (μ : Nat → Act → World → Nat)
    (first : c.wp P (jumpM J Q) a w)
    (pass : ∀ l a w, J l a w → ∃ rest, findLabel c l = some rest ∧ rest.wp P (jumpM (fun l' a' w' => J l' a' w' ∧ μ l' a' w' < μ l a w) Q) a w) : (Code.scope c).wp P Q a w := by
  intro b k cs
  have key : ∀ n l a w, μ l a w = n → J l a w → ∃ rest, findLabel c l = some rest ∧ ∃ e a' w', Q e a' w' ∧ Arrives P (lone (b.at a (.code rest :: .inScope c :: k)) cs w) b k cs e a' w' := by
    intro n
    induction n using Nat.strongRecOn with
    | _ n ih =>
      intro l a w hn hJ
      obtain ⟨rest, hf, hp⟩ := pass l a w hJ
      refine ⟨rest, hf, ?_⟩
      obtain ⟨e, a₁, w₁, hq, harr⟩ := hp b (.inScope c :: k) cs
      cases e with
      | normal => exact ⟨.normal, a₁, w₁, hq, Steps.trans harr (.one step_inScope)⟩
      | exit id => exact ⟨.exit id, a₁, w₁, hq, fun k' hk => harr k' (by simp [exitTo, hk])⟩
      | goto l' =>
        obtain ⟨hJ', hlt⟩ := hq
        obtain ⟨rest', hf', e₂, a₂, w₂, hq₂, harr₂⟩ := ih _ (by omega) l' a₁ w₁ rfl hJ'
        have hg : gotoIn l' (.inScope c :: k) = some (.code rest' :: .inScope c :: k) := by simp [gotoIn, hf']
        exact ⟨e₂, a₂, w₂, hq₂, .of_steps (harr _ hg) harr₂⟩
      | ret => exact ⟨_, a₁, w₁, hq, harr⟩
      | panic ch => exact ⟨_, a₁, w₁, hq, harr⟩
      | outgrown => exact ⟨_, a₁, w₁, hq, harr⟩
  obtain ⟨e, a₁, w₁, hq, harr⟩ := first b (.inScope c :: k) cs
  cases e with
  | normal => exact ⟨.normal, a₁, w₁, hq, .head step_scope (Steps.trans harr (.one step_inScope))⟩
  | exit id => exact ⟨.exit id, a₁, w₁, hq, fun k' hk => .head step_scope (harr k' (by simp [exitTo, hk]))⟩
  | goto l' =>
    have hJ' : J l' a₁ w₁ := hq
    obtain ⟨rest', hf', e₂, a₂, w₂, hq₂, harr₂⟩ := key _ l' a₁ w₁ rfl hJ'
    have hg : gotoIn l' (.inScope c :: k) = some (.code rest' :: .inScope c :: k) := by simp [gotoIn, hf']
    exact ⟨e₂, a₂, w₂, hq₂, .of_steps (.head step_scope (harr _ hg)) harr₂⟩
  | ret => exact ⟨_, a₁, w₁, hq, .of_steps (.one step_scope) harr⟩
  | panic ch => exact ⟨_, a₁, w₁, hq, .of_steps (.one step_scope) harr⟩
  | outgrown => exact ⟨_, a₁, w₁, hq, .of_steps (.one step_scope) harr⟩

/-- .. where the run comes to a label also from ahead of it. -/
theorem wp_scope_fall {c : Code} (J : Nat → Act → World → Prop) (μ : Nat → Act → World → Nat)
    (first : (∀ l rest a w, findLabel c l = some (.seq .skip rest) → J l a w → rest.wp P (jumpM J Q) a w) → c.wp P (jumpM J Q) a w)
    (pass : ∀ l a w, J l a w → ∃ rest, findLabel c l = some (.seq .skip rest) ∧ rest.wp P (jumpM (fun l' a' w' => J l' a' w' ∧ μ l' a' w' < μ l a w) Q) a w) : (Code.scope c).wp P Q a w := by
  refine wp_scope_multi J μ (first fun l rest a w hf hJ => ?_) fun l a w hJ => ?_
  · obtain ⟨rest', hf', hp⟩ := pass l a w hJ
    obtain rfl : rest' = rest := by
      have := Option.some.inj (hf'.symm.trans hf)
      exact (Code.seq.inj this).2
    refine wp_mono hp fun e a' w' hq => ?_
    cases e with
    | goto l' => exact hq.1
    | _ => exact hq
  · obtain ⟨rest', hf', hp⟩ := pass l a w hJ
    exact ⟨_, hf', wp_seq (wp_skip hp)⟩
end
end Go.Proofs.Ytpokcbcffijheaa.M

/-
  How a number is read from its bytes, with no word of the program.
-/
namespace Go.Proofs.Ytpokcbcffijheaa.M

/-- From the byte of number i on, u read so far: the code, u, and how many bytes. -/
def rd : Nat → Nat → List UInt8 → Nat × Nat × Nat
  | _, _, [] => (4, 0, 0)
  | i, u, c :: l => if i = 9 ∧ 1 < c.toNat then (3, 0, 0) else
      if c.toNat < 128 then (if c.toNat = 0 ∧ i ≠ 0 then (3, 0, 0) else (0, u + c.toNat * 2 ^ (7 * i), i + 1))
      else rd (i + 1) (u + (c.toNat % 128) * 2 ^ (7 * i)) l
theorem rd_nil (i u : Nat) : rd i u [] = (4, 0, 0) := by rw [rd]
theorem rd_ten {i u : Nat} {c : UInt8} {l : List UInt8} (hi : i = 9) (hc : 1 < c.toNat) : rd i u (c :: l) = (3, 0, 0) := by
  rw [rd, if_pos ⟨hi, hc⟩]
theorem rd_zero {i u : Nat} {c : UInt8} {l : List UInt8} (hi : i ≠ 0) (hc : c.toNat = 0) : rd i u (c :: l) = (3, 0, 0) := by
  rw [rd, if_neg (by omega), if_pos (by omega), if_pos ⟨hc, hi⟩]
theorem rd_last {i u : Nat} {c : UInt8} {l : List UInt8} (h1 : ¬ (i = 9 ∧ 1 < c.toNat)) (h2 : c.toNat < 128) (h3 : ¬ (c.toNat = 0 ∧ i ≠ 0)) : rd i u (c :: l) = (0, u + c.toNat * 2 ^ (7 * i), i + 1) := by
  rw [rd, if_neg h1, if_pos h2, if_neg h3]
theorem rd_more {i u : Nat} {c : UInt8} {l : List UInt8} (h1 : ¬ i = 9) (h2 : ¬ c.toNat < 128) : rd i u (c :: l) = rd (i + 1) (u + (c.toNat % 128) * 2 ^ (7 * i)) l := by
  rw [rd, if_neg (by omega), if_neg h2]

theorem pow7 (i : Nat) : 2 ^ (7 * (i + 1)) = 128 * 2 ^ (7 * i) := by
  rw [show 7 * (i + 1) = 7 * i + 7 by omega, Nat.pow_add]; omega
/-- What is read stays below 2^(7i). -/
theorem low_next {i u c : Nat} (hu : u < 2 ^ (7 * i)) (hc : c < 128) : u + c * 2 ^ (7 * i) < 2 ^ (7 * (i + 1)) := by
  rw [pow7]
  have h : c * 2 ^ (7 * i) ≤ 127 * 2 ^ (7 * i) := Nat.mul_le_mul_right _ (by omega)
  generalize 2 ^ (7 * i) = p at *
  generalize c * p = q at *
  omega
theorem pow_le {i : Nat} (h : i ≤ 9) : 2 ^ (7 * i) ≤ 9223372036854775808 := by
  have : 2 ^ (7 * i) ≤ 2 ^ (7 * 9) := Nat.pow_le_pow_right (by omega) (by omega)
  simpa using this
theorem pow_le8 {i : Nat} (h : i ≤ 8) : 2 ^ (7 * i) ≤ 72057594037927936 := by
  have : 2 ^ (7 * i) ≤ 2 ^ (7 * 8) := Nat.pow_le_pow_right (by omega) (by omega)
  simpa using this
theorem part_lt {i c : Nat} (hi : i ≤ 9) (hc : c < 128) (h9 : i = 9 → c ≤ 1) : c * 2 ^ (7 * i) ≤ 9223372036854775808 := by
  by_cases h : i = 9
  · subst h
    have := h9 rfl
    have h2 : (2 : Nat) ^ (7 * 9) = 9223372036854775808 := by decide
    rw [h2]
    rcases (show c = 0 ∨ c = 1 by omega) with h | h <;> subst h <;> decide
  · have h1 := pow_le8 (i := i) (by omega)
    have : c * 2 ^ (7 * i) ≤ 127 * 72057594037927936 := Nat.mul_le_mul (by omega) h1
    exact Nat.le_trans this (by decide)
theorem drop_cons (s : ByteArray) (k : Nat) (h : k < s.size) : s.data.toList.drop k = s[k] :: s.data.toList.drop (k + 1) := by
  rw [List.drop_eq_getElem_cons (by simpa using h)]; rfl
theorem drop_nil (s : ByteArray) (k : Nat) (h : ¬ k < s.size) : s.data.toList.drop k = [] := List.drop_of_length_le (by simp; omega)

/-- GetNum: N, At and Code. -/
def numR (s : ByteArray) (at' : Int) (unf : Nat → Int) : Int × Int × Nat :=
  if 20000 < s.size then (0, 0, 2) else if at' < 0 then (0, 0, 1) else
    let r := rd 0 0 (s.data.toList.drop at'.toNat)
    if r.1 = 0 then (unf r.2.1, at' + r.2.2, 0) else (0, 0, r.1)

theorem wrap_u64 {n : Nat} (h : n < 18446744073709551616) : IntKind.u64.wrap (n : Int) = (n : Int) := by
  have e : IntKind.u64.wrap (n : Int) = (n : Int) % 18446744073709551616 := by simp [IntKind.wrap, IntKind.bits, IntKind.signed]
  rw [e]; omega
/-- The seven bits more, put beside what was read. -/
theorem or_add {u c i : Nat} (hu : u < 2 ^ (7 * i)) (hi : i ≤ 9) (h9 : i = 9 → c % 128 ≤ 1) :
    bits .or .u64 (u : Int) (IntKind.u64.wrap ((c : Int) % 128 * 2 ^ (7 * i))) = ((u + (c % 128) * 2 ^ (7 * i) : Nat) : Int) := by
  have hp := part_lt hi (Nat.mod_lt c (by decide)) h9
  have hq := pow_le hi
  have e1 : (c : Int) % 128 * 2 ^ (7 * i) = (((c % 128) * 2 ^ (7 * i) : Nat) : Int) := by simp
  rw [e1, wrap_u64 (by omega), u64_or_nat _ _ (by omega) (by omega), Nat.or_comm, nat_join (7 * i) _ _ (by rw [Nat.mul_mod_left]) hu, Nat.add_comm]
theorem sum_lt {u c i : Nat} (hu : u < 2 ^ (7 * i)) (hi : i ≤ 9) (h9 : i = 9 → c % 128 ≤ 1) : u + (c % 128) * 2 ^ (7 * i) < 18446744073709551616 := by
  have hp := part_lt hi (Nat.mod_lt c (by decide)) h9
  have hq := pow_le hi
  omega
theorem rd_last' {i u : Nat} {c : UInt8} {l : List UInt8} (h1 : ¬ (i = 9 ∧ 1 < c.toNat)) (h2 : c.toNat < 128) : rd i u (c :: l) = if c.toNat = 0 ∧ i ≠ 0 then (3, 0, 0) else (0, u + (c.toNat % 128) * 2 ^ (7 * i), i + 1) := by
  rw [rd, if_neg h1, if_pos h2, Nat.mod_eq_of_lt h2]
theorem add_wrap {u c i : Nat} (hu : u < 2 ^ (7 * i)) (hi : i ≤ 9) (h9 : i = 9 → c % 128 ≤ 1) :
    IntKind.u64.wrap ((u : Int) + IntKind.u64.wrap ((c : Int) % 128 * 2 ^ (7 * i))) = ((u + (c % 128) * 2 ^ (7 * i) : Nat) : Int) := by
  have hp := part_lt hi (Nat.mod_lt c (by decide)) h9
  have hq := pow_le hi
  have e1 : (c : Int) % 128 * 2 ^ (7 * i) = (((c % 128) * 2 ^ (7 * i) : Nat) : Int) := by simp
  rw [e1, wrap_u64 (by omega), ← Int.natCast_add, wrap_u64 (by omega)]
end Go.Proofs.Ytpokcbcffijheaa.M
