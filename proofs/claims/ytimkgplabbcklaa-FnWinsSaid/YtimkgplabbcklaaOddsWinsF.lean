/- The program's OddsWins. -/
import Derived.Test.YtimkgplabbcklaaOddsLeastF
namespace Go.Proofs.Ytimkgplabbcklaa
set_option linter.unusedVariables false
set_option linter.unusedSimpArgs false
open Go.RowKit

set_option maxRecDepth 100000 in
set_option maxHeartbeats 1600000 in
theorem oddsWins_all (m c q d : Nat) (a b : Option Addr) (X Y : Nat → Int) (w : World) (hm0 : m ≤ 1048576) (hb0 : Rd w a m X) (hm1 : q ≤ 1048576) (hb1 : Rd w b q Y) :
    Calls Try.prog 13 #[.slice a m c, .slice b q d] w fun e w' => e = .returned (.bool (tt (WinsP m X q Y))) ∧ Below w.heap.size w w' := by
  have H := oddsLeast_all m c q d a b X Y w hm0 hb0 hm1 hb1
  by_cases h : StakedP m X q Y
  · rw [tt_of h, leastA_yes h, stakedA_yes h] at H
    obtain ⟨t, ht⟩ : ∃ t, t = leastR X Y m := ⟨_, rfl⟩
    obtain ⟨s, hs⟩ : ∃ s, s = sumR Y m := ⟨_, rfl⟩
    have E := Lib.hid (show decide (t > s) = tt (WinsP m X q Y) from by
      rw [ht, hs]
      by_cases e : sumR Y m < leastR X Y m
      · rw [tt_of (show WinsP m X q Y from ⟨h, e⟩)]; simpa using e
      · rw [tt_no (show ¬ WinsP m X q Y from fun h' => e h'.2)]; simpa using e)
    rw [← ht, ← hs] at H
    have H := Lib.hid H
    clear ht hs h hb0 hb1
    go_enter Try.func13, Try.ntmps13
    go_wp2_with (go_at_call 17; refine H.out.mono ?_; rintro e w1 ⟨rfl, hb⟩; have B1 := Lib.hid hb; clear hb)
    go_ret
    exact ⟨by rw [← E.out]; rfl, B1.out⟩
  · rw [tt_no h, leastA_no h, stakedA_no h] at H
    have H := Lib.hid H
    rw [tt_no (show ¬ WinsP m X q Y from fun h' => h h'.1)]
    clear h hb0 hb1
    go_enter Try.func13, Try.ntmps13
    go_wp2_with (go_at_call 17; refine H.out.mono ?_; rintro e w1 ⟨rfl, hb⟩; have B1 := Lib.hid hb; clear hb)
    go_ret
    exact ⟨rfl, B1.out⟩
theorem oddsWins_any (m c q d : Nat) (a b : Option Addr) (X Y : Nat → Int) (w : World) (hm0 : m ≤ 1048576) (hmd0 : m ≤ c) (hb0 : Rd w a m X) (hm1 : q ≤ 1048576) (hmd1 : q ≤ d) (hb1 : Rd w b q Y) :
    Calls Try.prog 13 #[.slice a m c, .slice b q d] w fun e w' => e = .returned (.bool (tt (WinsP m X q Y))) ∧ Below w.heap.size w w' := oddsWins_all m c q d a b X Y w hm0 hb0 hm1 hb1
end Go.Proofs.Ytimkgplabbcklaa
