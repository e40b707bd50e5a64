/- The walk of the law FnRounds: it answers true at every code that can be read. -/
import Derived.Test.YtmjbocgoinfamaaDrawRateRounds
import Derived.Test.YtmjbocgoinfamaaRateFirst
import Derived.Test.YtmjbocgoinfamaaSpecRateRounds
import Derived.Test.YtmjbocgoinfamaaRateTurn
import Derived.Test.YtmjbocgoinfamaaRateRounds
import Derived.Test.YtmjbocgoinfamaaBackModel
namespace Go.Proofs.Ytmjbocgoinfamaa
set_option linter.unusedVariables false
set_option linter.unusedSimpArgs false
open Go.RowKit

theorem turn_rates {n : Nat} {L : Nat → Nat} {Z : Nat → Nat → Int} (h : IsRates n L Z) : IsRates n (fun _ => n) (turnX Z) :=
  ⟨h.1, fun i hi => ⟨rfl, fun k hk => ⟨((h.2 k hk).2 i hi).1, fun e => by subst e; exact ((h.2 i hi).2 i hi).2 rfl⟩⟩⟩

set_option maxHeartbeats 3200000 in
theorem fnRounds_walk (n c : Nat) (a : Option Addr) (B : Nat → Nat) (w : World) (hc : n ≤ c) (hb : RdB w a n B) (hab : 0 < n → ∀ b o, a = some ⟨b, o, none⟩ → b < w.heap.size) :
    Calls Try.prog 5 #[.slice a n c] w fun e w' => e = .returned (.bool true) ∧ Below w.heap.size w w' := by
  by_cases hfit : n ≤ 1048576
  · have hd : ¬ (1048576 < n) := by omega
    have HD := Lib.hid (drawRateRounds_any n c a B w hfit hc hb hab)
    clear hb hab
    go_enter Try.func5, Try.ntmps5
    go_wp2_with fail
    refine HD.out.mono ?_
    rintro e w1 ⟨ga, N, gc, A, L, C, Z, rfl, ⟨hN1, hN5⟩, hL, hT, hb1⟩
    have HT := Lib.hid hT
    have HL := Lib.hid (show ∀ r, r < N → L r ≤ 1048576 from fun r hr => by have := hL r hr; omega)
    have B1 := Lib.hid hb1
    clear hT hL hb1 HD
    go_wp2_with fail
    refine (rateRounds_any N gc ga A L C Z _ (by omega) HL.out HT.out).mono ?_
    rintro e w2 ⟨rfl, hb2⟩
    have B2 := Lib.hid hb2
    clear hb2
    obtain ⟨G, hG⟩ : ∃ G, G = gainN N L Z := ⟨_, rfl⟩
    have QG := Lib.hid hG
    by_cases hr : IsRates N L Z
    · have KR := Lib.hid (tt_of hr)
      have KN := Lib.hid (turnN_yes hr)
      have KS := Lib.hid (tt_of (turn_rates hr))
      have KT := Lib.hid (show gainN N (fun _ => N) (turnX Z) = G by rw [hG, gainN_yes (turn_rates hr), gaining_turn, ← gainN_yes hr])
      obtain ⟨bb, hbb⟩ : ∃ bb, bb = tt (0 < G) := ⟨_, rfl⟩
      have K0 := Lib.hid (show tt (0 < gainN N L Z) = bb by rw [hbb, hG])
      have hd1 : decide (0 < (G : Int)) = bb := by rw [hbb]; by_cases h : 0 < G; (rw [tt_of h]; simp; omega); (rw [tt_no h]; simp; omega)
      have hd2 : decide (0 < G) = bb := by rw [hbb]; by_cases h : 0 < G; (rw [tt_of h]; simp; omega); (rw [tt_no h]; simp; omega)
      rw [KR.out, ← QG.out]
      clear hr hG hbb
      go_wp2_with fail
      refine (specRateRounds_any N gc ga A L C Z _ (by omega) HL.out (HT.out.below (Nat.le_refl _) B2.out)).mono ?_
      rintro e w3 ⟨rfl, hb3⟩
      rw [KR.out, ← QG.out]
      have B3 := Lib.hid (below_chain B2.out hb3)
      clear hb3
      go_wp2_with fail
      refine (rateTurn_any N gc ga A L C Z _ (by omega) HL.out (HT.out.below (Nat.le_refl _) B3.out)).mono ?_
      rintro e w4 ⟨ta, tc, tA, tC, rfl, hO5, hb4⟩
      rw [KR.out]
      have B4 := Lib.hid (below_chain B3.out hb4)
      rw [KN.out] at hO5 ⊢
      have T5 := Lib.hid hO5.tab
      clear hO5
      clear hb4
      go_wp2_with fail
      refine (rateRounds_any N tc _ _ _ _ _ _ (by omega) (fun _ _ => by show N ≤ _; omega) T5.out).mono ?_
      rintro e w5 ⟨rfl, hb5⟩
      rw [KS.out, KT.out]
      have B5 := Lib.hid (below_chain B4.out hb5)
      clear hb5
      go_wp2_with fail
      refine (rateFirst_any N gc ga A L C Z _ (by omega) HL.out (HT.out.below (Nat.le_refl _) B5.out)).mono ?_
      rintro e w6 ⟨fa, fc, rfl, _, _, hb6⟩
      rw [K0.out]
      have B6 := Lib.hid (below_chain B5.out hb6)
      clear hb6
      go_wp2
      go_ret
      exact ⟨by cases bb <;> simp, below_chain B1.out B6.out⟩
    · have KR := Lib.hid (tt_no hr)
      rw [KR.out, ← QG.out]
      clear hr hG
      go_wp2_with fail
      refine (specRateRounds_any N gc ga A L C Z _ (by omega) HL.out (HT.out.below (Nat.le_refl _) B2.out)).mono ?_
      rintro e w3 ⟨rfl, hb3⟩
      rw [KR.out, ← QG.out]
      have B3 := Lib.hid (below_chain B2.out hb3)
      clear hb3
      go_wp2
      go_ret
      exact ⟨by simp, below_chain B1.out B3.out⟩
  · have hd : 1048576 < n := by omega
    clear hb hab
    go_enter Try.func5, Try.ntmps5
    go_wp2_with fail
    go_ret
    exact ⟨rfl, Below.refl _ _⟩
end Go.Proofs.Ytmjbocgoinfamaa
