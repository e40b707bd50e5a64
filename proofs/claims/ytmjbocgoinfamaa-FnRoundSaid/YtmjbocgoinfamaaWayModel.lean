/- What RateWay answers, in plain mathematics. -/
import Derived.Test.YtmjbocgoinfamaaMem
namespace Go.Proofs.Ytmjbocgoinfamaa
set_option linter.unusedVariables false

def WayOk (n : Nat) (L : Nat → Nat) (Z : Nat → Nat → Int) (m : Nat) (W : Nat → Int) : Prop := IsRates n L Z ∧ IsWay n m W

noncomputable def wayAns (n : Nat) (L : Nat → Nat) (Z : Nat → Nat → Int) (m : Nat) (W : Nat → Int) : Int := if tt (WayOk n L Z m W) = true then valF Z W (p12 ((n : Int) - 1 - m + 1).toNat) (m - 1) else 0

theorem wayAns_no {n : Nat} {L : Nat → Nat} {Z : Nat → Nat → Int} {m : Nat} {W : Nat → Int} (h : ¬ WayOk n L Z m W) : wayAns n L Z m W = 0 := by unfold wayAns; rw [tt_no h]; rfl
theorem wayAns_yes {n : Nat} {L : Nat → Nat} {Z : Nat → Nat → Int} {m : Nat} {W : Nat → Int} (h : WayOk n L Z m W) : wayAns n L Z m W = valF Z W (p12 ((n : Int) - 1 - m + 1).toNat) (m - 1) := by unfold wayAns; rw [tt_of h]; rfl
end Go.Proofs.Ytmjbocgoinfamaa
