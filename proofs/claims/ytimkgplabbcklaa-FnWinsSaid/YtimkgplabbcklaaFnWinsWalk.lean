/- The walk of the law FnWins: it answers true at every code that can be read. -/
import Derived.Test.YtimkgplabbcklaaDrawOddsWins
import Derived.Test.YtimkgplabbcklaaOddsWinsF
import Derived.Test.YtimkgplabbcklaaSpecOddsWins
import Derived.Test.YtimkgplabbcklaaOddsLeastF
import Derived.Test.YtimkgplabbcklaaOddsSureF
import Derived.Test.YtimkgplabbcklaaOddsFn
namespace Go.Proofs.Ytimkgplabbcklaa
set_option linter.unusedVariables false
open Go.RowKit

set_option maxRecDepth 100000 in
set_option maxHeartbeats 3200000 in
theorem fnWins_walk (n c : Nat) (a : Option Addr) (B : Nat → Nat) (w : World) (hc : n ≤ c) (hb : RdB w a n B) (hab : 0 < n → ∀ b o, a = some ⟨b, o, none⟩ → b < w.heap.size) :
    Calls Try.prog 6 #[.slice a n c] w fun e w' => e = .returned (.bool true) ∧ Below w.heap.size w w' := by
  by_cases hfit : n ≤ 1048576
  · have hd : ¬ (1048576 < n) := by omega
    have HD := Lib.hid (drawOddsWins_any n c a B w hfit hc hb hab)
    clear hb hab
    go_enter Try.func6, Try.ntmps6
    go_wp2_with fail
    refine HD.out.mono ?_
    rintro e w1 ⟨g, q, d, X, ab, q2, d2, Y, rfl, ⟨hq1, hq7, hqd⟩, hq27, hX, hY, hb1⟩
    have V1 := Lib.hid hX
    have Y1 := Lib.hid hY
    have B1 := Lib.hid hb1
    have hq0 : q ≤ 1048576 := by omega
    have hq20 : q2 ≤ 1048576 := by omega
    clear hX hY hb1 HD
    go_wp2_with fail
    refine (oddsWins_all q d q2 d2 (some ⟨g, 0, none⟩) ab X Y _ hq0 V1.out hq20 Y1.out).mono ?_
    rintro e w2 ⟨rfl, hb2⟩
    have V2 := Lib.hid (V1.out.below (Nat.le_refl _) hb2)
    have Y2 := Lib.hid (Y1.out.below (Nat.le_refl _) hb2)
    have B2 := Lib.hid (below_chain B1.out hb2)
    clear hb2 B1 V1 Y1
    go_wp2_with fail
    refine (specOddsWins_any q d q2 d2 (some ⟨g, 0, none⟩) ab X Y _ hq0 V2.out hq20 Y2.out).mono ?_
    rintro e w3 ⟨rfl, hb3⟩
    have V3 := Lib.hid (V2.out.below (Nat.le_refl _) hb3)
    have Y3 := Lib.hid (Y2.out.below (Nat.le_refl _) hb3)
    have B3 := Lib.hid (below_chain B2.out hb3)
    clear hb3 B2 V2 Y2
    by_cases h : WinsP q X q2 Y
    · have K1 := Lib.hid (tt_of h)
      have K2 := Lib.hid (tt_of h.1)
      have K4 := Lib.hid (leastA_yes h.1)
      have K5 := Lib.hid (stakedA_yes h.1)
      have hlt := h.2
      have hqe := h.1.1.2
      subst hqe
      have K6 := Lib.hid (tt_of (wins_sure h))
      obtain ⟨t, ht⟩ : ∃ t, t = leastR X Y q2 := ⟨_, rfl⟩
      obtain ⟨s, hs⟩ : ∃ s, s = sumR Y q2 := ⟨_, rfl⟩
      rw [← ht] at K4 hlt
      rw [← hs] at K5 hlt
      have HLT := Lib.hid hlt
      rw [K1.out]
      clear h ht hs hlt
      go_wp2_with fail
      refine (oddsLeast_all q2 d q2 d2 (some ⟨g, 0, none⟩) ab X Y _ hq0 V3.out hq20 Y3.out).mono ?_
      rintro e w4 ⟨rfl, hb4⟩
      rw [K4.out]
      rw [K5.out]
      rw [K2.out]
      have V4 := Lib.hid (V3.out.below (Nat.le_refl _) hb4)
      have Y4 := Lib.hid (Y3.out.below (Nat.le_refl _) hb4)
      have B4 := Lib.hid (below_chain B3.out hb4)
      clear hb4 B3 V3 Y3
      have d1 : decide (t > s) = true := by simpa using HLT.out
      go_wp2_with fail
      refine (oddsSure_all q2 d (some ⟨g, 0, none⟩) X _ hq0 V4.out).mono ?_
      rintro e w5 ⟨rfl, hb5⟩
      rw [K6.out]
      have V5 := Lib.hid (V4.out.below (Nat.le_refl _) hb5)
      have Y5 := Lib.hid (Y4.out.below (Nat.le_refl _) hb5)
      have B5 := Lib.hid (below_chain B4.out hb5)
      clear hb5 B4 V4 Y4
      go_wp2_with fail
      go_ret
      exact ⟨rfl, B5.out⟩
    · have K1 := Lib.hid (tt_no h)
      rw [K1.out]
      clear h
      go_wp2_with fail
      go_ret
      exact ⟨rfl, B3.out⟩
  · have hd : 1048576 < n := by omega
    clear hb hab
    go_enter Try.func6, Try.ntmps6
    go_wp2
    go_ret
    exact ⟨rfl, Below.refl _ _⟩
end Go.Proofs.Ytimkgplabbcklaa
