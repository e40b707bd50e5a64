/- The walk of the law FnGains: it answers true at every code that can be read. -/
import Derived.Test.YtakipaehoeapcaaDrawRateGains
import Derived.Test.YtakipaehoeapcaaRateFirst
import Derived.Test.YtakipaehoeapcaaSpecRateGains
import Derived.Test.YtakipaehoeapcaaRateTurn
import Derived.Test.YtakipaehoeapcaaRateRounds
import Derived.Test.YtakipaehoeapcaaBackModel
namespace Go.Proofs.Ytakipaehoeapcaa
set_option linter.unusedVariables false
set_option linter.unusedSimpArgs false
open Go.RowKit

theorem turn_rates {n : Nat} {L : Nat → Nat} {Z : Nat → Nat → Int} (h : IsRates n L Z) : IsRates n (fun _ => n) (turnX Z) :=
  ⟨h.1, fun i hi => ⟨rfl, fun k hk => ⟨((h.2 k hk).2 i hi).1, fun e => by subst e; exact ((h.2 i hi).2 i hi).2 rfl⟩⟩⟩

set_option maxHeartbeats 3200000 in
theorem fnGains_walk (n c : Nat) (a : Option Addr) (B : Nat → Nat) (w : World) (hc : n ≤ c) (hb : RdB w a n B) (hab : 0 < n → ∀ b o, a = some ⟨b, o, none⟩ → b < w.heap.size) :
    Calls Try.prog 3 #[.slice a n c] w fun e w' => e = .returned (.bool true) ∧ Below w.heap.size w w' := by
  by_cases hfit : n ≤ 1048576
  · have hd : ¬ (1048576 < n) := by omega
    have HD := Lib.hid (drawRateGains_any n c a B w hfit hc hb hab)
    clear hb hab
    go_enter Try.func3, Try.ntmps3
    go_wp2_with fail
    refine HD.out.mono ?_
    rintro e w1 ⟨ga, N, gc, A, L, C, Z, rfl, ⟨hN1, hN5⟩, hL, hT, hb1⟩
    have HT := Lib.hid hT
    have HL := Lib.hid (show ∀ r, r < N → L r ≤ 1048576 from fun r hr => by have := hL r hr; omega)
    have B1 := Lib.hid hb1
    clear hT hL hb1 HD
    go_wp2_with fail
    refine (rateGains_any N gc ga A L C Z _ (by omega) HL.out HT.out).mono ?_
    rintro e w2 ⟨rfl, hb2⟩
    have B2 := Lib.hid hb2
    clear hb2
    by_cases hg : 0 < gainN N L Z
    · have hr : IsRates N L Z := by
        by_cases h : IsRates N L Z
        · exact h
        · rw [gainN_no h] at hg; omega
      have K1 := Lib.hid (tt_of hg)
      have KR := Lib.hid (tt_of hr)
      have KN := Lib.hid (turnN_yes hr)
      have KT := Lib.hid (tt_of (show 0 < gainN N (fun _ => N) (turnX Z) by rw [gainN_yes (turn_rates hr), gaining_turn, ← gainN_yes hr]; exact hg))
      have hle : gainN N L Z ≤ 7776 := by rw [gainN_yes hr]; exact gaining_le hr.1.2
      obtain ⟨G, hG⟩ : ∃ G, G = gainN N L Z := ⟨_, rfl⟩
      have QG := Lib.hid hG
      rw [← hG] at hg hle
      have hd1 : decide (1 ≤ (G : Int)) = true := by simp; omega
      have hd2 : decide (1 ≤ G) = true := by simp; omega
      rw [K1.out]
      clear hr hG
      go_wp2_with fail
      refine (specRateGains_any N gc ga A L C Z _ (by omega) HL.out (HT.out.below (Nat.le_refl _) B2.out)).mono ?_
      rintro e w3 ⟨rfl, hb3⟩
      rw [K1.out]
      have B3 := Lib.hid (below_chain B2.out hb3)
      clear hb3
      go_wp2_with fail
      refine (rateRounds_any N gc ga A L C Z _ (by omega) HL.out (HT.out.below (Nat.le_refl _) B3.out)).mono ?_
      rintro e w4 ⟨rfl, hb4⟩
      rw [KR.out, ← QG.out]
      have B4 := Lib.hid (below_chain B3.out hb4)
      clear hb4
      go_wp2_with fail
      refine (rateTurn_any N gc ga A L C Z _ (by omega) HL.out (HT.out.below (Nat.le_refl _) B4.out)).mono ?_
      rintro e w5 ⟨ta, tc, tA, tC, rfl, hO5, hb5⟩
      rw [KR.out]
      have B5 := Lib.hid (below_chain B4.out hb5)
      rw [KN.out] at hO5 ⊢
      have T5 := Lib.hid hO5.tab
      clear hO5
      clear hb5
      go_wp2_with (go_at_call 16; refine (rateGains_any N tc _ _ _ _ _ _ (by omega) (fun _ _ => by show N ≤ _; omega) T5.out).mono ?_; rintro e w6 ⟨rfl, hb6⟩; rw [KT.out]; have B6 := Lib.hid (below_chain B5.out hb6); clear hb6)
      go_ret
      exact ⟨by first | rfl | simp, below_chain B1.out B6.out⟩
    · have K1 := Lib.hid (tt_no hg)
      rw [K1.out]
      clear hg
      go_wp2_with fail
      refine (specRateGains_any N gc ga A L C Z _ (by omega) HL.out (HT.out.below (Nat.le_refl _) B2.out)).mono ?_
      rintro e w3 ⟨rfl, hb3⟩
      rw [K1.out]
      have B3 := Lib.hid (below_chain B2.out hb3)
      clear hb3
      go_wp2
      go_ret
      exact ⟨rfl, below_chain B1.out B3.out⟩
  · have hd : 1048576 < n := by omega
    clear hb hab
    go_enter Try.func3, Try.ntmps3
    go_wp2_with fail
    go_ret
    exact ⟨rfl, Below.refl _ _⟩
end Go.Proofs.Ytakipaehoeapcaa
