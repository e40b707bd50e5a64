/- The walk of the law FnStep: it answers true at every code that can be read. -/
import Derived.Test.YtmjbocgoinfamaaDrawTwo
import Derived.Test.YtmjbocgoinfamaaRateBest
import Derived.Test.YtmjbocgoinfamaaRateStep
import Derived.Test.YtmjbocgoinfamaaSpecRateStep
import Derived.Test.YtmjbocgoinfamaaStepBest
import Derived.Test.YtmjbocgoinfamaaRateFirst
namespace Go.Proofs.Ytmjbocgoinfamaa
set_option linter.unusedVariables false
set_option linter.unusedSimpArgs false
open Go.RowKit

set_option maxHeartbeats 3200000 in
theorem fnStep_walk (n c : Nat) (a : Option Addr) (B : Nat → Nat) (w : World) (hc : n ≤ c) (hb : RdB w a n B) (hab : 0 < n → ∀ b o, a = some ⟨b, o, none⟩ → b < w.heap.size) :
    Calls Try.prog 7 #[.slice a n c] w fun e w' => e = .returned (.bool true) ∧ Below w.heap.size w w' := by
  by_cases hfit : n ≤ 1048576
  · have hd : ¬ (1048576 < n) := by omega
    have HD := Lib.hid (drawRateStep_any n c a B w hfit hc hb hab)
    clear hb hab
    go_enter Try.func7, Try.ntmps7
    go_wp2_with fail
    refine HD.out.mono ?_
    rintro e w1 ⟨ga, N, gc, A, L, C, Z, i, k, rfl, ⟨hN1, hN5, ⟨hi1, hi2⟩, hk1, hk2⟩, hL, hT, hb1⟩
    have HT := Lib.hid hT
    have HL := Lib.hid (show ∀ r, r < N → L r ≤ 1048576 from fun r hr => by have := hL r hr; omega)
    have B1 := Lib.hid hb1
    clear hT hL hb1 HD
    by_cases hok : TwoOk N L Z i k
    · obtain ⟨i', rfl⟩ := Int.eq_ofNat_of_zero_le hok.2.1.1
      obtain ⟨k', rfl⟩ := Int.eq_ofNat_of_zero_le hok.2.2.1
      have hi' : i' < N := by have := hok.2.1.2; omega
      have hk' : k' < N := by have := hok.2.2.2; omega
      have hN2 := hok.1.1.1
      obtain ⟨V, hV⟩ : ∃ V, V = bestAns N L Z i' k' := ⟨_, rfl⟩
      obtain ⟨S, hS⟩ : ∃ S, S = stepAns N L Z i' k' := ⟨_, rfl⟩
      have QV := Lib.hid hV
      have QS := Lib.hid hS
      have hge : decide (V ≤ S) = true := by
        rw [hV, hS, bestAns_yes hok, stepAns_yes hok]
        exact decide_eq_true (best_le_step hok.1 hi' hk')
      have K1 := Lib.hid (tt_of hok)
      have HOK := Lib.hid hok
      have HB := Lib.hid (show gaining N Z = [] → S = V from fun h => by
        rw [hV, hS, bestAns_yes hok, stepAns_yes hok]
        exact Int.le_antisymm (step_le_best hok.1 h hi' hk') (best_le_step hok.1 hi' hk'))
      clear hok hV hS
      go_wp2_with fail
      refine (rateStep_any N gc ga A L C Z i' k' _ (by omega) HL.out HT.out ⟨by omega, by omega⟩ ⟨by omega, by omega⟩).mono ?_
      rintro e w2 ⟨rfl, hb2⟩
      rw [K1.out, ← QS.out]
      have B2 := Lib.hid hb2
      clear hb2
      go_wp2_with fail
      refine (specRateStep_any N gc ga A L C Z i' k' _ (by omega) HL.out (HT.out.below (Nat.le_refl _) B2.out) ⟨by omega, by omega⟩ ⟨by omega, by omega⟩).mono ?_
      rintro e w3 ⟨rfl, hb3⟩
      rw [K1.out, ← QS.out]
      have B3 := Lib.hid (below_chain B2.out hb3)
      clear hb3
      go_wp2_with fail
      refine (rateBest_any N gc ga A L C Z i' k' _ (by omega) HL.out (HT.out.below (Nat.le_refl _) B3.out) ⟨by omega, by omega⟩ ⟨by omega, by omega⟩).mono ?_
      rintro e w4 ⟨rfl, hb4⟩
      rw [K1.out, ← QV.out]
      have B4 := Lib.hid (below_chain B3.out hb4)
      clear hb4
      by_cases hg : 0 < gainN N L Z
      · have KG := Lib.hid (tt_of hg)
        clear hg
        clear HOK QV QS HB
        go_wp2_with (go_at_call 22; refine (rateGains_any N gc ga A L C Z _ (by omega) HL.out (HT.out.below (Nat.le_refl _) B4.out)).mono ?_; rintro e w5 ⟨rfl, hb5⟩; rw [KG.out]; have B5 := Lib.hid (below_chain B4.out hb5); clear hb5)
        go_ret
        exact ⟨by first | rfl | simp, below_chain B1.out B5.out⟩
      · have KG := Lib.hid (tt_no hg)
        have hSV : S = V := HB.out (List.eq_nil_of_length_eq_zero (by rw [gainN_yes HOK.out.1] at hg; omega))
        subst hSV
        clear hg
        clear HOK QV QS HB
        go_wp2_with (go_at_call 22; refine (rateGains_any N gc ga A L C Z _ (by omega) HL.out (HT.out.below (Nat.le_refl _) B4.out)).mono ?_; rintro e w5 ⟨rfl, hb5⟩; rw [KG.out]; have B5 := Lib.hid (below_chain B4.out hb5); clear hb5)
        go_ret
        exact ⟨by first | rfl | simp, below_chain B1.out B5.out⟩
    · have K1 := Lib.hid (tt_no hok)
      obtain ⟨V, hV⟩ : ∃ V, V = stepAns N L Z i k := ⟨_, rfl⟩
      have QV := Lib.hid hV
      clear hok hV
      go_wp2_with fail
      refine (rateStep_any N gc ga A L C Z i k _ (by omega) HL.out HT.out ⟨by omega, by omega⟩ ⟨by omega, by omega⟩).mono ?_
      rintro e w2 ⟨rfl, hb2⟩
      rw [K1.out, ← QV.out]
      have B2 := Lib.hid hb2
      clear hb2
      go_wp2_with fail
      refine (specRateStep_any N gc ga A L C Z i k _ (by omega) HL.out (HT.out.below (Nat.le_refl _) B2.out) ⟨by omega, by omega⟩ ⟨by omega, by omega⟩).mono ?_
      rintro e w3 ⟨rfl, hb3⟩
      rw [K1.out, ← QV.out]
      have B3 := Lib.hid (below_chain B2.out hb3)
      clear hb3
      go_wp2
      go_ret
      exact ⟨by first | rfl | simp, below_chain B1.out B3.out⟩
  · have hd : 1048576 < n := by omega
    clear hb hab
    go_enter Try.func7, Try.ntmps7
    go_wp2_with fail
    go_ret
    exact ⟨rfl, Below.refl _ _⟩
end Go.Proofs.Ytmjbocgoinfamaa
