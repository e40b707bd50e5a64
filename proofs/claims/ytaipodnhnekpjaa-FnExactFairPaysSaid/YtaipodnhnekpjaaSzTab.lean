/- What is left of a budget behind the rows and the places of a table: the budget less all of them, or -1. -/
import Derived.Test.YtaipodnhnekpjaaSzInts
namespace Go.Proofs.Ytaipodnhnekpjaa
set_option linter.unusedVariables false
open Go.RowKit

set_option maxHeartbeats 400000 in
theorem szTab_any (n c : Nat) (a : Option Addr) (A : Nat → Option Addr) (L C : Nat → Nat) (Z : Nat → Nat → Int) (w : World) (hn : n ≤ 9223372036854775807) (hL : ∀ r, r < n → L r ≤ 9223372036854775807) (ha : Tab w a n A L C Z) :
    Calls Try.prog 15 #[.slice a n c, .int .i64 1048576] w fun e w' => e = .returned (.int .i64 (szF 1048576 (n + tot L n))) ∧ w = w' := by
  by_cases h : (n : Int) ≤ 1048576
  · go_enter Try.func15, Try.ntmps15
    go_wp2
    go_loop [1, 4, 5] (fun l r i => ∃ k : Nat, k ≤ n ∧ i = .int .i64 k ∧ r = .int .i64 0 ∧ (n + tot L k : Int) ≤ 1048576 ∧ l = .int .i64 (1048576 - n - tot L k)) (fun _ _ i => n - (intOf i).toNat)
    case atStart => exact ⟨0, Nat.zero_le _, rfl, rfl, by simpa [tot] using h, by simp [tot]⟩
    case round =>
      obtain ⟨k, hk, rfl, rfl, hs, rfl⟩ := hrel
      by_cases hlt : k < n
      · obtain ⟨b, o, rfl, hc, -⟩ := ha k hlt
        have hLk := hL k hlt
        have ht : tot L (k + 1) = tot L k + L k := rfl
        clear ha hL
        by_cases hfit : (n + tot L (k + 1) : Int) ≤ 1048576
        · have e1 : szF (1048576 - n - tot L k) (L k) = 1048576 - n - tot L (k + 1) := by unfold szF; rw [if_pos (by omega)]; omega
          have E1 := Lib.hid e1
          have E2 := Lib.hid ht
          clear e1 ht
          go_wp2_with fail
          refine (szInts_any (L k) (C k) (A k) _ _ (by omega) (by omega) (by omega)).mono ?_
          rintro e w' ⟨rfl, rfl⟩
          rw [E1.out]
          go_wp2
          go_round
          case rel => exact ⟨k + 1, by omega, by go_num, rfl, by omega, rfl⟩
          case measure => simp [intOf]; omega
        · have e1 : szF (1048576 - n - tot L k) (L k) = -1 := by unfold szF; rw [if_neg (by omega)]
          have hm := tot_mono (L := L) (i := k + 1) (j := n) hlt
          have e2 : szF 1048576 (n + tot L n) = -1 := by unfold szF; rw [if_neg (by omega)]
          have E1 := Lib.hid e1
          have E2 := Lib.hid e2
          clear e1 e2 ht
          go_wp2_with fail
          refine (szInts_any (L k) (C k) (A k) _ _ (by omega) (by omega) (by omega)).mono ?_
          rintro e w' ⟨rfl, rfl⟩
          rw [E1.out]
          go_wp2
          go_ret
          exact ⟨by rw [E2.out]; rfl, rfl⟩
      · obtain rfl : k = n := by omega
        have e2 : szF 1048576 (k + tot L k) = 1048576 - k - tot L k := by unfold szF; rw [if_pos (by omega)]; omega
        have E2 := Lib.hid e2
        clear e2
        go_wp2
        go_ret
        exact ⟨by rw [E2.out]; rfl, rfl⟩
  · have e2 : szF 1048576 (n + tot L n) = -1 := by unfold szF; rw [if_neg (by omega)]
    have E2 := Lib.hid e2
    clear e2
    go_enter Try.func15, Try.ntmps15
    go_wp2
    go_ret
    exact ⟨by rw [E2.out]; rfl, rfl⟩
end Go.Proofs.Ytaipodnhnekpjaa
