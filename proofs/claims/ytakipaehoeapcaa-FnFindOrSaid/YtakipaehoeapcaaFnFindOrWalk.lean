/- The walk of the law FnFindOr: it answers true at every code that can be read. -/
import Derived.Test.YtakipaehoeapcaaDrawRateRounds
import Derived.Test.YtakipaehoeapcaaRateRounds
import Derived.Test.YtakipaehoeapcaaSpecRateRounds
import Derived.Test.YtakipaehoeapcaaPriceFind
namespace Go.Proofs.Ytakipaehoeapcaa
set_option linter.unusedVariables false
open Go.RowKit

set_option maxHeartbeats 3200000 in
theorem fnFindOr_walk (n c : Nat) (a : Option Addr) (B : Nat → Nat) (w : World) (hc : n ≤ c) (hb : RdB w a n B) (hab : 0 < n → ∀ b o, a = some ⟨b, o, none⟩ → b < w.heap.size) :
    Calls Try.prog 8 #[.slice a n c] w fun e w' => e = .returned (.bool true) ∧ Below w.heap.size w w' := by
  by_cases hfit : n ≤ 1048576
  · have hd : ¬ (1048576 < n) := by omega
    have HD := Lib.hid (drawRateRounds_any n c a B w hfit hc hb hab)
    clear hb hab
    go_enter Try.func8, Try.ntmps8
    go_wp2_with fail
    refine HD.out.mono ?_
    rintro e w1 ⟨ga, N, gc, A, L, C, Z, rfl, ⟨hN1, hN5⟩, hL, hT, hb1⟩
    have HT := Lib.hid hT
    have HL := Lib.hid (show ∀ r, r < N → L r ≤ 1048576 from fun r hr => by have := hL r hr; omega)
    have B1 := Lib.hid hb1
    clear hT hL hb1 HD
    go_wp2_with fail
    refine (rateRounds_any N gc ga A L C Z _ (by omega) HL.out HT.out).mono ?_
    rintro e w2 ⟨rfl, hb2⟩
    have B2 := Lib.hid hb2
    clear hb2
    by_cases hr : IsRates N L Z
    · have K1 := Lib.hid (tt_of hr)
      have K2 := Lib.hid (gainN_yes hr)
      obtain ⟨G, hG⟩ : ∃ G, G = gainN N L Z := ⟨_, rfl⟩
      have KF := Lib.hid (show tt (FindOk N L Z) = ((G : Int) == 0) by
        rw [hG, K2.out]
        by_cases h0 : (gaining N Z).length = 0
        · rw [tt_of (show FindOk N L Z from ⟨hr, h0⟩), h0]; rfl
        · rw [tt_no (show ¬ FindOk N L Z from fun h => h0 h.2)]; exact (beq_eq_false_iff_ne.2 (by omega)).symm)
      have QG := Lib.hid hG
      rw [K1.out, ← QG.out]
      clear hr hG
      go_wp2_with fail
      refine (specRateRounds_any N gc ga A L C Z _ (by omega) HL.out (HT.out.below (Nat.le_refl _) B2.out)).mono ?_
      rintro e w3 ⟨rfl, hb3⟩
      rw [K1.out, ← QG.out]
      have B3 := Lib.hid (below_chain B2.out hb3)
      clear hb3
      go_wp2_with fail
      refine (priceFind_cap N gc ga A L C Z _ (by omega) HL.out (HT.out.below (Nat.le_refl _) B3.out)).mono ?_
      rintro e w4 ⟨pa, pc, rfl, _, _, hb4⟩
      rw [KF.out]
      have B4 := Lib.hid (below_chain B3.out hb4)
      clear hb4
      go_wp2
      go_ret
      exact ⟨by first | rfl | simp, below_chain B1.out B4.out⟩
    · have K1 := Lib.hid (tt_no hr)
      have K2 := Lib.hid (gainN_no hr)
      rw [K1.out, K2.out]
      clear hr
      go_wp2_with fail
      refine (specRateRounds_any N gc ga A L C Z _ (by omega) HL.out (HT.out.below (Nat.le_refl _) B2.out)).mono ?_
      rintro e w3 ⟨rfl, hb3⟩
      rw [K1.out, K2.out]
      have B3 := Lib.hid (below_chain B2.out hb3)
      clear hb3
      go_wp2
      go_ret
      exact ⟨rfl, below_chain B1.out B3.out⟩
  · have hd : 1048576 < n := by omega
    clear hb hab
    go_enter Try.func8, Try.ntmps8
    go_wp2_with fail
    go_ret
    exact ⟨rfl, Below.refl _ _⟩
end Go.Proofs.Ytakipaehoeapcaa
