/- The model's l1Every. -/
import Derived.Test.YtgjegpponchdaaaDoorL6In
import Derived.Test.YtgjegpponchdaaaDoorMem
namespace Go.Proofs.YtgjegpponchdaaaDoor
set_option linter.unusedVariables false
open Go.RowKit

set_option maxHeartbeats 800000 in
theorem l1Every_any (m c : Nat) (a : Option Addr) (X : Nat → Int) (w : World) (hm : m ≤ 61) (ha : Rd w a m X) :
    Calls Tryd.prog 62 #[.slice a m c] w fun e w' => e = .returned (.bool (tt (IsDiff m m X))) ∧ w = w' := by
  go_enter Tryd.func62, Tryd.ntmps62
  go_wp2
  go_loop [2, 3, 4] (fun r s i => ∃ k : Nat, k ≤ m ∧ i = .int .i64 k ∧ r = .bool false ∧ ∃ S : Nat, S < 2 ^ m ∧ s = .int .i64 S ∧ SetOf S k X ∧ ∀ j, j < k → 0 ≤ X j ∧ X j < m) (fun _ _ i => m - (intOf i).toNat)
  case atStart => exact ⟨0, Nat.zero_le _, rfl, rfl, 0, Nat.two_pow_pos m, rfl, SetOf.nil X, fun j hj => absurd hj (Nat.not_lt_zero _)⟩
  case round =>
    obtain ⟨k, hk, rfl, rfl, S, hS, rfl, hset, hrng⟩ := hrel
    have HS := Lib.hid hS
    have H1 := Lib.hid hset
    have H2 := Lib.hid hrng
    clear hS hset hrng
    by_cases hlt : k < m
    · obtain ⟨ba, oa, rfl, hca⟩ := ha k hlt
      clear ha
      by_cases hin : InR (X k) 0 (m - 1)
      · have B1 := Lib.hid (tt_of hin)
        unfold InR at hin
        obtain ⟨x, hx⟩ := Int.eq_ofNat_of_zero_le hin.1
        have hxn : x < m := by omega
        clear hin
        rw [hx] at hca B1
        have hx62 : x < 62 := by omega
        have hS62 : S < 2 ^ 62 := Nat.lt_trans HS.out (two_pow_lt (by omega))
        have HX := Lib.hid hx
        clear hx
        obtain ⟨S', hS'⟩ : ∃ S', S' = S ||| 2 ^ x := ⟨_, rfl⟩
        have hput := bit_put S x hS62 hx62
        rw [← hS'] at hput
        have HS' := Lib.hid hS'
        clear hS' hS62 hx62
        go_wp2_with (go_at_call 63; refine (l6In_any _ _ _ _).mono ?_; rintro e w' ⟨rfl, rfl⟩; rw [B1.out])
        go_round
        case rel => exact ⟨k + 1, by omega, by go_num, rfl, S', by rw [HS'.out]; exact bit_put_lt HS.out hxn, rfl, by rw [HS'.out]; exact H1.out.put HX.out, fun j hj => by
          by_cases e : j = k
          · subst e; have := HX.out; omega
          · exact H2.out j (by omega)⟩
        case measure => simp [intOf]; omega
      · have B1 := Lib.hid (tt_no hin)
        have hno := Lib.hid (not_diff_range (n := m) (X := X) hlt (by unfold InR at hin; omega))
        clear hin
        go_wp2_with (go_at_call 63; refine (l6In_any _ _ _ _).mono ?_; rintro e w' ⟨rfl, rfl⟩; rw [B1.out])
        go_ret
        exact ⟨by rw [tt_no hno.out]; rfl, rfl⟩
    · obtain rfl : k = m := by omega
      have hiff := Lib.hid (every_iff HS.out H1.out H2.out)
      have hp := two_pow_lt (show k < 62 by omega)
      have h1 := Nat.two_pow_pos k
      have hw2 : wrap64 (((2 ^ k : Nat) : Int) - 1) = ((2 ^ k - 1 : Nat) : Int) := by rw [IntWalk.wrap64_in _ (by omega)]; omega
      have hd : (((S : Nat) : Int) == wrap64 (wrap64 (2 ^ k) - 1)) = tt (IsDiff k k X) := by
        rw [wrap_pow (show k < 62 by omega), hw2]
        by_cases hi : IsDiff k k X
        · rw [tt_of hi, hiff.out.2 hi]; simp
        · rw [tt_no hi]
          have : S ≠ 2 ^ k - 1 := fun e => hi (hiff.out.1 e)
          simp only [beq_eq_false_iff_ne]; omega
      have HD := Lib.hid hd
      clear ha h1 hp hw2 hd
      go_wp2
      go_ret
      exact ⟨ret_bool HD.out, rfl⟩
end Go.Proofs.YtgjegpponchdaaaDoor
