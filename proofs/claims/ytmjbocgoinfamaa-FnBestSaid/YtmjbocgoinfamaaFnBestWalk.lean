/- The walk of the law FnBest: it answers true at every code that can be read. -/
import Derived.Test.YtmjbocgoinfamaaDrawTwo
import Derived.Test.YtmjbocgoinfamaaRateBest
import Derived.Test.YtmjbocgoinfamaaRateStep
import Derived.Test.YtmjbocgoinfamaaStepBest
import Derived.Test.YtmjbocgoinfamaaPower
namespace Go.Proofs.Ytmjbocgoinfamaa
set_option linter.unusedVariables false
set_option linter.unusedSimpArgs false
open Go.RowKit

set_option maxHeartbeats 3200000 in
theorem fnBest_walk (n c : Nat) (a : Option Addr) (B : Nat → Nat) (w : World) (hc : n ≤ c) (hb : RdB w a n B) (hab : 0 < n → ∀ b o, a = some ⟨b, o, none⟩ → b < w.heap.size) :
    Calls Try.prog 6 #[.slice a n c] w fun e w' => e = .returned (.bool true) ∧ Below w.heap.size w w' := by
  by_cases hfit : n ≤ 1048576
  · have hd : ¬ (1048576 < n) := by omega
    have HD := Lib.hid (drawRateBest_any n c a B w hfit hc hb hab)
    clear hb hab
    go_enter Try.func6, Try.ntmps6
    go_wp2_with fail
    refine HD.out.mono ?_
    rintro e w1 ⟨ga, N, gc, A, L, C, Z, i, k, rfl, ⟨hN1, hN5, ⟨hi1, hi2⟩, hk1, hk2⟩, hL, hT, hb1⟩
    have HT := Lib.hid hT
    have HL := Lib.hid (show ∀ r, r < N → L r ≤ 1048576 from fun r hr => by have := hL r hr; omega)
    have B1 := Lib.hid hb1
    clear hT hL hb1 HD
    by_cases hok : TwoOk N L Z i k
    · obtain ⟨i', rfl⟩ := Int.eq_ofNat_of_zero_le hok.2.1.1
      obtain ⟨k', rfl⟩ := Int.eq_ofNat_of_zero_le hok.2.2.1
      have hi' : i' < N := by have := hok.2.1.2; omega
      have hk' : k' < N := by have := hok.2.2.2; omega
      have hN2 := hok.1.1.1
      obtain ⟨V, hV⟩ : ∃ V, V = bestAns N L Z i' k' := ⟨_, rfl⟩
      obtain ⟨S, hS⟩ : ∃ S, S = stepAns N L Z i' k' := ⟨_, rfl⟩
      have QV := Lib.hid hV
      have QS := Lib.hid hS
      have hge : decide (V ≤ S) = true := by
        rw [hV, hS, bestAns_yes hok, stepAns_yes hok]
        exact decide_eq_true (best_le_step hok.1 hi' hk')
      have K1 := Lib.hid (tt_of hok)
      have HOK := Lib.hid hok
      clear hok hV hS
      go_wp2_with fail
      refine (rateBest_any N gc ga A L C Z i' k' _ (by omega) HL.out HT.out ⟨by omega, by omega⟩ ⟨by omega, by omega⟩).mono ?_
      rintro e w2 ⟨rfl, hb2⟩
      rw [K1.out, ← QV.out]
      have B2 := Lib.hid hb2
      clear hb2
      go_wp2_with fail
      refine (specRateBest_any N gc ga A L C Z i' k' _ (by omega) HL.out (HT.out.below (Nat.le_refl _) B2.out) ⟨by omega, by omega⟩ ⟨by omega, by omega⟩).mono ?_
      rintro e w3 ⟨rfl, hb3⟩
      rw [K1.out, ← QV.out]
      have B3 := Lib.hid (below_chain B2.out hb3)
      clear hb3
      go_wp2_with fail
      refine (rateStep_any N gc ga A L C Z i' k' _ (by omega) HL.out (HT.out.below (Nat.le_refl _) B3.out) ⟨by omega, by omega⟩ ⟨by omega, by omega⟩).mono ?_
      rintro e w4 ⟨rfl, hb4⟩
      rw [K1.out, ← QS.out]
      have B4 := Lib.hid (below_chain B3.out hb4)
      clear hb4
      have hw1 : IntKind.i64.wrap ((N : Int) - 1) = (N : Int) - 1 := IntWalk.i64_in _ (by omega)
      have hw2 : IntKind.i64.wrap ((N : Int) - 2) = (N : Int) - 2 := IntWalk.i64_in _ (by omega)
      by_cases hik : i' = k'
      · subst hik
        have hV' : V = p12 (N - 1) := by rw [QV.out, bestAns_yes HOK.out, best_same hi', if_pos rfl]
        have IX := Lib.hid (show ∀ r : Later w4, Calls Try.prog 21 #[.int .i64 ((N : Int) - 1)] r.W fun e w' => e = .returned (.int .i64 V) ∧ Below r.W.heap.size r.W w' from fun r => by
          refine (power_any _ _ (by omega) (by omega)).mono ?_
          rintro e w' ⟨rfl, rfl⟩
          exact ⟨by rw [hV', show ((N : Int) - 1).toNat = N - 1 by omega], Below.refl _ _⟩)
        clear hV'
        go_wp2
        refine wp_region_later (by kernel_rfl) (by kernel_rfl) ?_
        repeat go_big_quiet_step ((go_at_call 21; exact calls_later _ (IX.out _)))
        refine wpQuiet_nil ?_
        rintro _ ⟨r, rfl⟩
        go_wp2
        go_ret
        exact ⟨by first | rfl | simp, below_chain B1.out (below_chain B4.out r.h)⟩
      · have hne : ((i' : Int) == (k' : Int)) = false := beq_eq_false_iff_ne.2 (fun e => hik (by omega))
        have hne2 : (i' == k') = false := by simpa using hik
        have hbn : ((i' : Int) != (k' : Int)) = true := bne_iff_ne.2 (fun e => hik (by omega))
        have hbn2 : (i' != k') = true := by simpa using hik
        obtain ⟨Y, hY⟩ : ∃ Y, Y = Z i' k' := ⟨_, rfl⟩
        obtain ⟨P, hP⟩ : ∃ P, P = p12 (N - 2) := ⟨_, rfl⟩
        have hYb := ((HOK.out.1.2 i' hi').2 k' hk').1
        rw [← hY] at hYb
        have hPb := p12_small (N - 2) (by omega)
        rw [← hP] at hPb
        have hmb : 0 ≤ Y * P ∧ Y * P ≤ 429981696 := by
          refine ⟨Int.mul_nonneg (by omega) hPb.1, ?_⟩
          have := Int.mul_le_mul hYb.2 hPb.2 hPb.1 (by decide)
          omega
        have hwm : IntKind.i64.wrap (Y * P) = Y * P := IntWalk.i64_in _ (by omega)
        have hge2 : decide (Y * P ≤ V) = true := by
          rw [hY, hP, QV.out, bestAns_yes HOK.out]
          exact decide_eq_true (best_straight hN2 hi' hk' hik)
        have IX := Lib.hid (show ∀ r : Later w4, Calls Try.prog 21 #[.int .i64 ((N : Int) - 2)] r.W fun e w' => e = .returned (.int .i64 P) ∧ Below r.W.heap.size r.W w' from fun r => by
          refine (power_any _ _ (by omega) (by omega)).mono ?_
          rintro e w' ⟨rfl, rfl⟩
          exact ⟨by rw [hP, show ((N : Int) - 2).toNat = N - 2 by omega], Below.refl _ _⟩)
        obtain ⟨ba, oa, rfl, hca, hra⟩ := (HT.out.below (Nat.le_refl _) B4.out) i' hi'
        have hLi := (HOK.out.1.2 i' hi').1
        rw [hLi] at hca hra
        obtain ⟨bc, oc, hA, hcc⟩ := hra k' hk'
        rw [hA] at hca
        rw [← hY] at hcc
        have hcr : ∀ r : Later w4, r.W.cell? ⟨ba, oa + i', none⟩ = some (.slice (some ⟨bc, oc, none⟩) N (C i')) := fun r => later_cell hca r
        have hcr2 : ∀ r : Later w4, r.W.cell? ⟨bc, oc + k', none⟩ = some (.int .i64 Y) := fun r => later_cell hcc r
        clear hY hP hca hra hA hcc hLi HT HOK QV QS hik
        go_wp2
        refine wp_region_later (by kernel_rfl) (by kernel_rfl) ?_
        repeat go_big_quiet_step ((go_at_call 21; exact calls_later _ (IX.out _)))
        refine wpQuiet_nil ?_
        rintro _ ⟨r, rfl⟩
        go_wp2
        go_ret
        exact ⟨by first | rfl | simp, below_chain B1.out (below_chain B4.out r.h)⟩
    · have K1 := Lib.hid (tt_no hok)
      obtain ⟨V, hV⟩ : ∃ V, V = bestAns N L Z i k := ⟨_, rfl⟩
      have QV := Lib.hid hV
      clear hok hV
      go_wp2_with fail
      refine (rateBest_any N gc ga A L C Z i k _ (by omega) HL.out HT.out ⟨by omega, by omega⟩ ⟨by omega, by omega⟩).mono ?_
      rintro e w2 ⟨rfl, hb2⟩
      rw [K1.out, ← QV.out]
      have B2 := Lib.hid hb2
      clear hb2
      go_wp2_with fail
      refine (specRateBest_any N gc ga A L C Z i k _ (by omega) HL.out (HT.out.below (Nat.le_refl _) B2.out) ⟨by omega, by omega⟩ ⟨by omega, by omega⟩).mono ?_
      rintro e w3 ⟨rfl, hb3⟩
      rw [K1.out, ← QV.out]
      have B3 := Lib.hid (below_chain B2.out hb3)
      clear hb3
      go_wp2
      go_ret
      exact ⟨by first | rfl | simp, below_chain B1.out B3.out⟩
  · have hd : 1048576 < n := by omega
    clear hb hab
    go_enter Try.func6, Try.ntmps6
    go_wp2_with fail
    go_ret
    exact ⟨rfl, Below.refl _ _⟩
end Go.Proofs.Ytmjbocgoinfamaa
