/- The model's l6wMoved and l6wLess. -/
import Derived.Test.YtnaegnjgpnakfaaDoorWantModel
import Derived.Test.YtnaegnjgpnakfaaDoorSeq
import Derived.Test.YtnaegnjgpnakfaaDoorProg
import Derived.BigQuiet
namespace Go.Proofs.YtnaegnjgpnakfaaDoor
set_option linter.unusedVariables false
set_option linter.unusedSimpArgs false
open Go.RowKit

set_option maxHeartbeats 800000 in
theorem l6wMoved_any (m c : Nat) (a : Option Addr) (T : Nat → Int) (w : World) (hm : m ≤ 1048576) (ha : Rd w a m T) :
    Calls Tryd.prog 48 #[.slice a m c] w fun e w' => e = .returned (.int .i64 (movedN T m : Nat)) ∧ w = w' := by
  go_enter Tryd.func48, Tryd.ntmps48
  go_wp2
  go_loop [3, 4] (fun s i => ∃ k : Nat, k ≤ m ∧ i = .int .i64 k ∧ s = .int .i64 (movedN T k : Nat)) (fun _ i => m - (intOf i).toNat)
  case atStart => exact ⟨0, Nat.zero_le _, rfl, rfl⟩
  case round =>
    obtain ⟨k, hk, rfl, rfl⟩ := hrel
    by_cases hlt : k < m
    · obtain ⟨ba, oa, rfl, hca⟩ := ha k hlt
      have hle := movedN_le T k
      obtain ⟨x, hx⟩ : ∃ x, x = T k := ⟨_, rfl⟩
      obtain ⟨N, hN⟩ : ∃ N, N = movedN T k := ⟨_, rfl⟩
      have hnext : movedN T (k + 1) = N + if x = k then 0 else 1 := by rw [hx, hN]; rfl
      rw [← hx] at hca
      rw [← hN] at hle ⊢
      have HX := Lib.hid hnext
      clear ha hx hN hnext
      by_cases e : x = k
      · have d1 : (x != (k : Int)) = false := by simp [e]
        have E := Lib.hid (show movedN T (k + 1) = N by rw [HX.out, if_pos e]; rfl)
        clear e
        go_wp2
        go_round
        case rel => exact ⟨k + 1, by omega, by go_num, by rw [E.out]⟩
        case measure => simp [intOf]; omega
      · have d1 : (x != (k : Int)) = true := by simp [e]
        have E := Lib.hid (show movedN T (k + 1) = N + 1 by rw [HX.out, if_neg e])
        clear e
        go_wp2
        go_round
        case rel => exact ⟨k + 1, by omega, by go_num, by rw [E.out]; go_num⟩
        case measure => simp [intOf]; omega
    · obtain rfl : k = m := by omega
      clear ha
      go_wp2
      go_ret
      exact ⟨rfl, rfl⟩
end Go.Proofs.YtnaegnjgpnakfaaDoor
