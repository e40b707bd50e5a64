/- Who is reached, and where people point, as sets; in plain mathematics. -/
import Derived.Test.YtgjegpponchdaaaDoorTradeModel
namespace Go.Proofs.YtgjegpponchdaaaDoor
set_option linter.unusedVariables false
set_option linter.unusedSimpArgs false
open Go.RowKit

/-- x is put into the set: the same, the number being a term of its own. -/
theorem bits_or_pow (S x : Nat) (hS : S < 2 ^ 62) (hx : x < 62) : bits .or .i64 (S : Int) (wrap64 (2 ^ x)) = ((S ||| 2 ^ x : Nat) : Int) := bit_put S x hS hx

/-- The set of those who are reached by all of S behind s steps. -/
def Reach (n : Nat) (f : Nat → Nat) (S : Nat → Bool) (s K : Nat) : Prop := K < 2 ^ n ∧ ∀ y, K.testBit y = true ↔ ∃ j, S j = true ∧ it f s j = y
/-- The set of those at whom the first i of K point. -/
def Front (n : Nat) (f : Nat → Nat) (K i N : Nat) : Prop := N < 2 ^ n ∧ ∀ y, N.testBit y = true ↔ ∃ x, x < i ∧ K.testBit x = true ∧ f x = y
theorem Front.zero (n : Nat) (f : Nat → Nat) (K : Nat) : Front n f K 0 0 := ⟨Nat.two_pow_pos n, fun y => by simp⟩
theorem Front.no {n K i N : Nat} {f : Nat → Nat} (h : Front n f K i N) (hi : K.testBit i = false) : Front n f K (i + 1) N := by
  refine ⟨h.1, fun y => (h.2 y).trans ?_⟩
  constructor
  · rintro ⟨x, h1, h2, h3⟩; exact ⟨x, by omega, h2, h3⟩
  · rintro ⟨x, h1, h2, h3⟩
    refine ⟨x, ?_, h2, h3⟩
    by_cases e : x = i
    · subst e; rw [hi] at h2; cases h2
    · omega
theorem Front.yes {n K i N : Nat} {f : Nat → Nat} (h : Front n f K i N) (hi : K.testBit i = true) (hf : f i < n) : Front n f K (i + 1) (N ||| 2 ^ f i) := by
  refine ⟨bit_put_lt h.1 hf, fun y => ?_⟩
  rw [bit_put_has, h.2 y]
  constructor
  · rintro (⟨x, h1, h2, h3⟩ | rfl)
    · exact ⟨x, by omega, h2, h3⟩
    · exact ⟨i, by omega, hi, rfl⟩
  · rintro ⟨x, h1, h2, h3⟩
    by_cases e : x = i
    · subst e; exact .inr h3.symm
    · exact .inl ⟨x, by omega, h2, h3⟩
theorem Reach.next {n K N s : Nat} {f : Nat → Nat} {S : Nat → Bool} (h : Reach n f S s K) (k : Front n f K n N) : Reach n f S (s + 1) N := by
  refine ⟨k.1, fun y => (k.2 y).trans ?_⟩
  constructor
  · rintro ⟨x, _, h2, h3⟩
    obtain ⟨j, h4, h5⟩ := (h.2 x).1 h2
    exact ⟨j, h4, by show f _ = _; rw [h5]; exact h3⟩
  · rintro ⟨j, h4, h5⟩
    have h6 := (h.2 (it f s j)).2 ⟨j, h4, rfl⟩
    refine ⟨it f s j, ?_, h6, h5⟩
    rcases Nat.lt_or_ge (it f s j) n with h7 | h7
    · exact h7
    · rw [Nat.testBit_lt_two_pow (Nat.lt_of_lt_of_le h.1 (Nat.pow_le_pow_right (by omega) h7))] at h6; cases h6
theorem Reach.zero {n m : Nat} (f : Nat → Nat) (hm : m < 2 ^ n) : Reach n f m.testBit 0 m := ⟨hm, fun y => ⟨fun h => ⟨y, h, rfl⟩, fun ⟨j, h1, h2⟩ => by have : j = y := h2; rw [← this]; exact h1⟩⟩
theorem mask_ppl {n m : Nat} (hm : m < 2 ^ n) : Ppl n m.testBit := fun y hy => by
  rcases Nat.lt_or_ge y n with h | h
  · exact h
  · rw [Nat.testBit_lt_two_pow (Nat.lt_of_lt_of_le hm (Nat.pow_le_pow_right (by omega) h))] at hy; cases hy
theorem circB_ppl {n : Nat} {S : Nat → Bool} (Z : Nat → Nat → Int) (hS : Ppl n S) : Ppl n (circB Z n S) := fun y hy => hS y (circB_in hy)
theorem Reach.all {n m K : Nat} {L : Nat → Nat} {Z : Nat → Nat → Int} (hW : IsWishes n L Z) (hm : m < 2 ^ n) (h : Reach n (ptS Z n m.testBit) m.testBit n K) : K = maskN (circB Z n m.testBit) n := by
  refine Nat.eq_of_testBit_eq fun y => ?_
  rw [(maskN_is (circB_ppl Z (mask_ppl hm))).2 y, Bool.eq_iff_iff, h.2 y, circB_image hW (mask_ppl hm)]

end Go.Proofs.YtgjegpponchdaaaDoor
