/- The program's unitAfter. -/
import Derived.Test.YtmjbocgoinfamaaProg
import Derived.Test.YtmjbocgoinfamaaMem
namespace Go.Proofs.Ytmjbocgoinfamaa
set_option linter.unusedVariables false
open Go.RowKit

set_option maxHeartbeats 400000 in
theorem unitAfter_any (n : Int) (w : World) (hn : n ≤ 10) (h0 : -1000000000 ≤ n) :
    Calls Try.prog 60 #[.int .i64 n] w fun e w' => e = .returned (.int .i64 (p12 n.toNat)) ∧ w = w' := by
  go_enter Try.func60, Try.ntmps60
  go_wp2
  go_loop [3, 5] (fun p i => ∃ k : Nat, k ≤ n.toNat ∧ i = .int .i64 k ∧ p = .int .i64 (p12 k)) (fun _ i => n.toNat - (intOf i).toNat)
  case atStart => exact ⟨0, Nat.zero_le _, rfl, rfl⟩
  case round =>
    obtain ⟨k, hk, rfl, rfl⟩ := hrel
    obtain ⟨hp1, hp2⟩ := p12_le k (by omega)
    by_cases hlt : (k : Int) < n
    · go_wp2
      go_round
      case rel => exact ⟨k + 1, by omega, by go_num, rfl⟩
      case measure => simp [intOf]; omega
    · have hkn := Lib.hid (show k = n.toNat by omega)
      go_wp2
      go_ret
      exact ⟨by rw [← hkn.out]; rfl, rfl⟩
end Go.Proofs.Ytmjbocgoinfamaa
