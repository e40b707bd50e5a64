/- The program's RateIn: true exactly for a table of rates. -/
import Derived.Test.YtakipaehoeapcaaReadRates
namespace Go.Proofs.Ytakipaehoeapcaa
set_option linter.unusedVariables false
open Go.RowKit

set_option maxHeartbeats 400000 in
theorem rateIn_any (n c : Nat) (a : Option Addr) (A : Nat → Option Addr) (L C : Nat → Nat) (Z : Nat → Nat → Int) (w : World) (hn0 : n ≤ 1048576) (hL0 : ∀ r, r < n → L r ≤ 1048576) (ha0 : Tab w a n A L C Z) :
    Calls Try.prog 72 #[.slice a n c] w fun e w' => e = .returned (.bool (tt (IsRates n L Z))) ∧ Below w.heap.size w w' := by
  have hn := hn0; have hL := hL0; have ha := ha0; clear hn0 hL0 ha0
  have HC := Lib.hid (readRates_any n c a A L C Z w hn hL ha)
  clear hL ha
  go_enter Try.func72, Try.ntmps72
  go_wp2_with (first
    | (go_at_call 50; refine HC.out.mono ?_; rintro e w0 ⟨rfl, hb0⟩)
    | ((with_reducible refine arr_alloc 25 _ (Try.zeroRates _) ?_); intro w1 hA1 hs1 hb1; have S1 := Lib.hid hs1; clear hs1)
    | ((with_reducible refine arr_store 25 _ _ _ _ _ _ (rateF n L Z) ?_ ?_ hA1 Try.sizeRates ?_); exact rfl; exact rfl; intro w2 hA2 hs2 ho2 hb2; clear hA1))
  go_ret
  exact ⟨rfl, (hb0.trans (hb1.mono hb0.size)).trans (hb2.mono hb0.size)⟩
end Go.Proofs.Ytakipaehoeapcaa
