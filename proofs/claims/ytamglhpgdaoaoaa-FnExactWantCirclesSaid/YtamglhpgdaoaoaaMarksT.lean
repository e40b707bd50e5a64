/- The marks of a table are held. -/
import Derived.Test.YtamglhpgdaoaoaaMarks
namespace Go.Proofs.Ytamglhpgdaoaoaa
set_option linter.unusedVariables false
open Go.RowKit

set_option maxHeartbeats 800000 in
theorem heldTab_any (n c : Nat) (a : Option Addr) (A : Nat → Option Addr) (L C : Nat → Nat) (w : World) (hn : n ≤ 1048576) (ht : tot L n ≤ 1048576) (ho : Tab w a n A L C (fromT 1 L)) :
    Calls Try.prog 34 #[.slice a n c, .int .i64 1] w fun e w' => e = .returned (.int .i64 (1 + tot L n)) ∧ w = w' := by
  have HO := Lib.hid ho
  clear ho
  go_enter Try.func34, Try.ntmps34
  go_wp2
  go_loop [1, 4, 5] (fun q r i => ∃ j : Nat, j ≤ n ∧ i = .int .i64 j ∧ r = .int .i64 0 ∧ q = .int .i64 (1 + tot L j)) (fun _ _ i => n - (intOf i).toNat)
  case atStart => exact ⟨0, Nat.zero_le _, rfl, rfl, by simp [tot]⟩
  case round =>
    obtain ⟨j, hj, rfl, rfl, rfl⟩ := hrel
    by_cases hlt : j < n
    · obtain ⟨ba, oa, rfl, hc, hr⟩ := HO.out j hlt
      have hm1 := tot_mono (L := L) (i := j) (j := n) hj
      have hm2 := le_tot (L := L) hlt
      have HRd := Lib.hid hr
      have HT := Lib.hid (show tot L (j + 1) = tot L j + L j from rfl)
      clear hr
      go_wp2_with fail
      refine (heldInts_any (L j) (C j) (A j) _ _ (by omega) (by omega) (by omega) HRd.out).mono ?_
      rintro e w' ⟨rfl, rfl⟩
      go_wp2
      go_round
      case rel => exact ⟨j + 1, by omega, by go_num, rfl, by rw [HT.out]; go_num⟩
      case measure => simp [intOf]; omega
    · obtain rfl : j = n := by omega
      go_wp2
      go_ret
      exact ⟨rfl, rfl⟩
end Go.Proofs.Ytamglhpgdaoaoaa
