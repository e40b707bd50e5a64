/- Words for drawn bids and a number. -/
import Derived.Test.YtbmkgkiochhdmaaDrawBids
namespace Go.Proofs.Ytbmkgkiochhdmaa
set_option linter.unusedVariables false
set_option linter.unusedSimpArgs false
open Go.RowKit

/-- Drawn bids and a number. -/
def DrewBidNum (w : World) (e : Ending) (w' : World) : Prop :=
  ∃ (ga : Option Addr) (N gc : Nat) (A : Nat → Option Addr) (L C : Nat → Nat) (Z : Nat → Nat → Int) (i : Int), e = .returned (.tuple #[.slice ga N gc, .int .i64 i]) ∧ (1 ≤ N ∧ N ≤ 4 ∧ N ≤ gc) ∧ (-100 ≤ i ∧ i ≤ 100) ∧ (∀ s, s < N → 1 ≤ L s ∧ L s ≤ 5) ∧ Tab w' ga N A L C Z ∧ Below w.heap.size w w'

end Go.Proofs.Ytbmkgkiochhdmaa
