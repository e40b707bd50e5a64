/- The model's l6wSet. -/
import Derived.Test.YteigenmagifplaaWantModel
import Derived.Test.YteigenmagifplaaProg
namespace Go.Proofs.Yteigenmagifplaa
set_option linter.unusedVariables false
set_option linter.unusedSimpArgs false
open Go.RowKit

set_option maxHeartbeats 800000 in
theorem l6wSet_any (n m c : Nat) (a : Option Addr) (C : Nat → Int) (w : World) (hn : n ≤ 6) (hm : m ≤ 1048576) (ha : Rd w a m C) (hC : ∀ j, j < m → 0 ≤ C j ∧ C j < n) :
    Calls Try.prog 46 #[.slice a m c] w fun e w' => e = .returned (.int .i64 (setN C m : Nat)) ∧ w = w' := by
  have HC := Lib.hid hC
  clear hC
  go_enter Try.func46, Try.ntmps46
  go_wp2
  go_loop [3, 4] (fun s i => ∃ k : Nat, k ≤ m ∧ i = .int .i64 k ∧ s = .int .i64 (setN C k : Nat)) (fun _ i => m - (intOf i).toNat)
  case atStart => exact ⟨0, Nat.zero_le _, rfl, rfl⟩
  case round =>
    obtain ⟨k, hk, rfl, rfl⟩ := hrel
    by_cases hlt : k < m
    · obtain ⟨ba, oa, rfl, hca⟩ := ha k hlt
      obtain ⟨x, hx⟩ := Int.eq_ofNat_of_zero_le (HC.out k hlt).1
      have hxn : x < n := by have := (HC.out k hlt).2; omega
      have hx62 : x < 62 := by omega
      have hS : setN C k < 2 ^ n := setN_lt fun j hj => HC.out j (by omega)
      have hp6 : 2 ^ n ≤ 2 ^ 6 := Nat.pow_le_pow_right (by omega) hn
      have hnext : setN C (k + 1) = setN C k ||| 2 ^ x := by
        show setN C k ||| 2 ^ (C k).toNat = _
        rw [hx, Int.toNat_natCast]
      obtain ⟨S, hSe⟩ : ∃ S, S = setN C k := ⟨_, rfl⟩
      obtain ⟨S', hSe'⟩ : ∃ S', S' = setN C (k + 1) := ⟨_, rfl⟩
      rw [← hSe, ← hSe'] at hnext
      rw [← hSe] at hS ⊢
      have hput := bit_put S x (by omega) hx62
      rw [← hnext] at hput
      rw [hx] at hca
      have QS := Lib.hid hSe'
      clear ha hx hSe hSe' hnext hS hp6
      go_wp2
      go_round
      case rel => exact ⟨k + 1, by omega, by go_num, by rw [QS.out]⟩
      case measure => simp [intOf]; omega
    · obtain rfl : k = m := by omega
      clear ha
      go_wp2
      go_ret
      exact ⟨rfl, rfl⟩
end Go.Proofs.Yteigenmagifplaa
