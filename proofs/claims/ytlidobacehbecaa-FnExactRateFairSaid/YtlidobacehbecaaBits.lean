/- Sets of small numbers as bits of an int, in the walk's spelling. -/
import Derived.Test.YtlidobacehbecaaMem
namespace Go.Proofs.Ytlidobacehbecaa
set_option linter.unusedVariables false
open Go.RowKit

theorem ofInt64_nat (a : Nat) (ha : a < 18446744073709551616) : (BitVec.ofInt 64 (a : Int)).toNat = a := by
  rw [BitVec.ofInt_natCast, BitVec.toNat_ofNat]; exact Nat.mod_eq_of_lt (by omega)

theorem bits_and_i64 (a b : Nat) (ha : a < 9223372036854775808) (hb : b < 9223372036854775808) : bits .and .i64 (a : Int) (b : Int) = ((a &&& b : Nat) : Int) := by
  have hx : a &&& b < 2 ^ 63 := Nat.and_lt_two_pow _ (by omega)
  show IntKind.i64.wrap ((BitVec.ofInt 64 (a : Int) &&& BitVec.ofInt 64 (b : Int)).toNat : Int) = _
  rw [BitVec.toNat_and, ofInt64_nat a (by omega), ofInt64_nat b (by omega), IntKind.wrap_i64]
  omega

theorem bits_or_i64 (a b : Nat) (ha : a < 9223372036854775808) (hb : b < 9223372036854775808) : bits .or .i64 (a : Int) (b : Int) = ((a ||| b : Nat) : Int) := by
  have hx : a ||| b < 2 ^ 63 := Nat.or_lt_two_pow (by omega) (by omega)
  show IntKind.i64.wrap ((BitVec.ofInt 64 (a : Int) ||| BitVec.ofInt 64 (b : Int)).toNat : Int) = _
  rw [BitVec.toNat_or, ofInt64_nat a (by omega), ofInt64_nat b (by omega), IntKind.wrap_i64]
  omega

theorem two_pow_lt {x n : Nat} (h : x < n) : 2 ^ x < 2 ^ n := Nat.pow_lt_pow_right (by omega) h

theorem wrap_pow {x : Nat} (h : x < 62) : wrap64 (2 ^ x) = ((2 ^ x : Nat) : Int) := by
  have := two_pow_lt h
  rw [IntWalk.wrap64_in _ ⟨by have : (0 : Int) ≤ 2 ^ x := Int.le_of_lt (Int.pow_pos (by omega)); omega, by
    have e : ((2 ^ x : Nat) : Int) = (2 : Int) ^ x := by simp
    have : ((2 ^ x : Nat) : Int) < ((2 ^ 62 : Nat) : Int) := by omega
    omega⟩]
  simp

/-- Is x in the set? As the walk asks. -/
theorem bit_has (S x : Nat) (hS : S < 2 ^ 62) : (bits .and .i64 ((S : Int) / 2 ^ x) 1 == 1) = S.testBit x := by
  have e : ((S : Int) / 2 ^ x) = ((S / 2 ^ x : Nat) : Int) := by simp
  have hle : S / 2 ^ x ≤ S := Nat.div_le_self _ _
  rw [e, show (1 : Int) = ((1 : Nat) : Int) from rfl, bits_and_i64 _ _ (by omega) (by omega)]
  rw [Nat.testBit, Nat.shiftRight_eq_div_pow, Nat.and_comm 1]
  have h2 : S / 2 ^ x &&& 1 = 0 ∨ S / 2 ^ x &&& 1 = 1 := by rw [Nat.and_one_is_mod]; omega
  rcases h2 with h | h <;> rw [h] <;> rfl

/-- x is put into the set. -/
theorem bit_put (S x : Nat) (hS : S < 2 ^ 62) (hx : x < 62) : bits .or .i64 (S : Int) (wrap64 (2 ^ x)) = ((S ||| 2 ^ x : Nat) : Int) := by
  have := two_pow_lt hx
  rw [wrap_pow hx, bits_or_i64 _ _ (by omega) (by omega)]

theorem bit_put_lt {S x n : Nat} (hS : S < 2 ^ n) (hx : x < n) : S ||| 2 ^ x < 2 ^ n := Nat.or_lt_two_pow hS (two_pow_lt hx)

theorem bit_put_has (S x y : Nat) : (S ||| 2 ^ x).testBit y = true ↔ (S.testBit y = true ∨ y = x) := by
  rw [Nat.testBit_or, Bool.or_eq_true, Nat.testBit_two_pow, decide_eq_true_iff]
  exact ⟨fun h => h.imp_right Eq.symm, fun h => h.imp_right Eq.symm⟩
end Go.Proofs.Ytlidobacehbecaa
