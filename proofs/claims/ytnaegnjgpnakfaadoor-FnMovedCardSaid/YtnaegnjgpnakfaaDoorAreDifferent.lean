/- The program's areDifferent. -/
import Derived.Test.YtnaegnjgpnakfaaDoorProg
import Derived.Test.YtnaegnjgpnakfaaDoorMem
namespace Go.Proofs.YtnaegnjgpnakfaaDoor
set_option linter.unusedVariables false
open Go.RowKit

set_option maxHeartbeats 800000 in
theorem areDifferent_any (n m c : Nat) (a : Option Addr) (X : Nat → Int) (w : World) (hn : n ≤ 61) (hm : m ≤ 1048576) (ha : Rd w a m X) :
    Calls Tryd.prog 67 #[.int .i64 n, .slice a m c] w fun e w' => e = .returned (.bool (tt (IsDiff n m X))) ∧ w = w' := by
  go_enter Tryd.func67, Tryd.ntmps67
  go_wp2
  go_loop [4, 5, 7, 10] (fun r s _ i => ∃ k : Nat, k ≤ m ∧ i = .int .i64 k ∧ r = .bool false ∧ ∃ S : Nat, S < 2 ^ n ∧ s = .int .i64 S ∧ SetOf S k X ∧ IsDiff n k X) (fun _ _ _ i => m - (intOf i).toNat)
  case atStart => exact ⟨0, Nat.zero_le _, rfl, rfl, 0, Nat.two_pow_pos n, rfl, SetOf.nil X, IsDiff.nil n X⟩
  case round =>
    obtain ⟨k, hk, rfl, rfl, S, hS, rfl, hset, hdiff⟩ := hrel
    have HS := Lib.hid hS
    have H1 := Lib.hid hset
    have H2 := Lib.hid hdiff
    clear hS hset hdiff
    by_cases hlt : k < m
    · obtain ⟨ba, oa, rfl, hca⟩ := ha k hlt
      clear ha
      by_cases h0 : X k < 0
      · have hno := Lib.hid (not_diff_range (n := n) hlt (.inl h0))
        have hd : decide (X k < 0) = true := by simpa using h0
        go_wp2
        go_ret
        exact ⟨by rw [tt_no hno.out]; rfl, rfl⟩
      · by_cases h1 : (n : Int) ≤ X k
        · have hno := Lib.hid (not_diff_range (n := n) hlt (.inr h1))
          have hd : decide ((n : Int) ≤ X k) = true := by simpa using h1
          go_wp2
          go_ret
          exact ⟨by rw [tt_no hno.out]; rfl, rfl⟩
        · obtain ⟨x, hx⟩ := Int.eq_ofNat_of_zero_le (show 0 ≤ X k by omega)
          rw [hx] at hca h0 h1
          have hxn : x < n := by omega
          have hd : decide ((n : Int) ≤ x) = false := by simp; omega
          have hx62 : x < 62 := by omega
          have hS62 : S < 2 ^ 62 := Nat.lt_trans HS.out (two_pow_lt (by omega))
          have HX := Lib.hid hx
          have hhas := bit_has S x hS62
          clear hx h0 h1
          by_cases hb : S.testBit x = true
          · rw [hb] at hhas
            have hno := Lib.hid (not_diff_twice (n := n) H1.out hlt HX.out hb)
            clear hb hS62 hx62
            go_wp2
            go_ret
            exact ⟨by rw [tt_no hno.out]; rfl, rfl⟩
          · have hb' : S.testBit x = false := by simpa using hb
            rw [hb'] at hhas
            obtain ⟨S', hS'⟩ : ∃ S', S' = S ||| 2 ^ x := ⟨_, rfl⟩
            have hput := bit_put S x hS62 hx62
            rw [← hS'] at hput
            have HS' := Lib.hid hS'
            have HB := Lib.hid hb'
            clear hb hb' hS' hS62 hx62
            go_wp2
            go_round
            case rel => exact ⟨k + 1, by omega, by go_num, rfl, S', by rw [HS'.out]; exact bit_put_lt HS.out hxn, rfl, by rw [HS'.out]; exact H1.out.put HX.out, H2.out.snoc H1.out HX.out hxn HB.out⟩
            case measure => simp [intOf]; omega
    · obtain rfl : k = m := by omega
      clear ha
      go_wp2
      go_ret
      exact ⟨by rw [tt_of H2.out]; rfl, rfl⟩
end Go.Proofs.YtnaegnjgpnakfaaDoor
