/- One set without another one, as the walk reckons it. -/
import Derived.Test.YtgjegpponchdaaaDoorMem
namespace Go.Proofs.YtgjegpponchdaaaDoor
set_option linter.unusedVariables false
set_option linter.unusedSimpArgs false
open Go.RowKit

/-- What is in the first set and not in the second one. -/
theorem bits_andNot_i64 (a b : Nat) (ha : a < 2 ^ 62) (hb : b < 2 ^ 62) : ∃ r : Nat, bits .andNot .i64 (a : Int) (b : Int) = (r : Int) ∧ r ≤ a ∧ ∀ y, r.testBit y = (a.testBit y && !b.testBit y) := by
  have e : bits .andNot .i64 (a : Int) (b : Int) = IntKind.i64.wrap ((BitVec.ofInt 64 (a : Int) &&& ~~~ BitVec.ofInt 64 (b : Int)).toNat : Int) := rfl
  have ea := ofInt64_nat a (by omega)
  have eb := ofInt64_nat b (by omega)
  have hle : (BitVec.ofInt 64 (a : Int) &&& ~~~ BitVec.ofInt 64 (b : Int)).toNat ≤ a := by
    rw [BitVec.toNat_and, ea]; exact Nat.and_le_left
  refine ⟨(BitVec.ofInt 64 (a : Int) &&& ~~~ BitVec.ofInt 64 (b : Int)).toNat, ?_, hle, fun y => ?_⟩
  · rw [e, IntKind.wrap_i64]; omega
  · rw [BitVec.testBit_toNat, BitVec.getLsbD_and, BitVec.getLsbD_not, ← BitVec.testBit_toNat, ← BitVec.testBit_toNat, ea, eb]
    by_cases hy : y < 64
    · simp [hy]
    · rw [Nat.testBit_lt_two_pow (x := a) (Nat.lt_of_lt_of_le ha (Nat.pow_le_pow_right (by omega) (by omega)))]; simp

theorem diff_nat {n : Nat} {X : Nat → Int} (h : IsDiff n n X) {k : Nat} (hk : k < n) : ∃ x : Nat, X k = x ∧ x < n := by
  have h1 := h.1 k hk
  obtain ⟨x, hx⟩ := Int.eq_ofNat_of_zero_le h1.1
  exact ⟨x, hx, by omega⟩

end Go.Proofs.YtgjegpponchdaaaDoor
