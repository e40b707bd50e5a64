/- The program's OddsIn. -/
import Derived.Test.YtamgckmkebpgjaaReadOdds
namespace Go.Proofs.Ytamgckmkebpgjaa
set_option linter.unusedVariables false
set_option linter.unusedSimpArgs false
open Go.RowKit

set_option maxRecDepth 100000 in
set_option maxHeartbeats 1600000 in
theorem oddsIn_all (m c : Nat) (a : Option Addr) (X : Nat → Int) (w : World) (hm0 : m ≤ 1048576) (hb0 : Rd w a m X) :
    Calls Try.prog 16 #[.slice a m c] w fun e w' => e = .returned (.bool (tt (IsOdds m X))) ∧ Below w.heap.size w w' := by
  have H := Lib.hid (readOdds_any m c a X w hm0 hb0)
  cases hT : tt (IsOdds m X) with
  | true =>
    have T1 := Lib.hid hT
    clear hT hb0
    go_enter Try.func16, Try.ntmps16
    go_wp2_with (go_at_call 42; refine H.out.mono ?_; rintro e w' ⟨rfl, rfl⟩; rw [T1.out, show ∀ a : Option Addr, oddsV true a m c = .slice a m c from fun _ => rfl])
    go_ret
    exact ⟨rfl, Below.refl _ _⟩
  | false =>
    have T1 := Lib.hid hT
    clear hT hb0
    go_enter Try.func16, Try.ntmps16
    go_wp2_with (go_at_call 42; refine H.out.mono ?_; rintro e w' ⟨rfl, rfl⟩; rw [T1.out, show ∀ a : Option Addr, oddsV false a m c = .slice none 0 0 from fun _ => rfl])
    go_ret
    exact ⟨rfl, Below.refl _ _⟩
theorem oddsIn_any (m c : Nat) (a : Option Addr) (X : Nat → Int) (w : World) (hm0 : m ≤ 1048576) (hmd0 : m ≤ c) (hb0 : Rd w a m X) :
    Calls Try.prog 16 #[.slice a m c] w fun e w' => e = .returned (.bool (tt (IsOdds m X))) ∧ Below w.heap.size w w' := oddsIn_all m c a X w hm0 hb0
end Go.Proofs.Ytamgckmkebpgjaa
