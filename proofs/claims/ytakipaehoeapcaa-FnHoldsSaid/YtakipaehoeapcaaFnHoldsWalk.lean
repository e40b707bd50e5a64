/- The walk of the law FnHolds: it answers true at every code that can be read. -/
import Derived.Test.YtakipaehoeapcaaDrawHolds
import Derived.Test.YtakipaehoeapcaaPriceHolds
import Derived.Test.YtakipaehoeapcaaSpecPriceHolds
import Derived.Test.YtakipaehoeapcaaPriceFind
import Derived.Test.YtakipaehoeapcaaHoldModel
namespace Go.Proofs.Ytakipaehoeapcaa
set_option linter.unusedVariables false
set_option linter.unusedSimpArgs false
open Go.RowKit

set_option maxHeartbeats 3200000 in
theorem fnHolds_walk (n c : Nat) (a : Option Addr) (B : Nat → Nat) (w : World) (hc : n ≤ c) (hb : RdB w a n B) (hab : 0 < n → ∀ b o, a = some ⟨b, o, none⟩ → b < w.heap.size) :
    Calls Try.prog 6 #[.slice a n c] w fun e w' => e = .returned (.bool true) ∧ Below w.heap.size w w' := by
  by_cases hfit : n ≤ 1048576
  · have hd : ¬ (1048576 < n) := by omega
    have HD := Lib.hid (drawPriceHolds_any n c a B w hfit hc hb hab)
    clear hb hab
    go_enter Try.func6, Try.ntmps6
    go_wp2_with fail
    refine HD.out.mono ?_
    rintro e w1 ⟨ga, N, gc, A, L, C, Z, pa, pc, W, rfl, ⟨hN1, hN5, hcap⟩, hL, hT, hW, hb1⟩
    have HT := Lib.hid hT
    have HW := Lib.hid hW
    have HL := Lib.hid (show ∀ r, r < N → L r ≤ 1048576 from fun r hr => by have := hL r hr; omega)
    have B1 := Lib.hid hb1
    clear hT hW hL hb1 HD
    go_wp2_with fail
    refine (priceHolds_any N gc N pc ga pa A L C Z W _ (by omega) HL.out HT.out (by omega) hcap HW.out).mono ?_
    rintro e w2 ⟨rfl, hb2⟩
    have B2 := Lib.hid hb2
    clear hb2
    by_cases hr : HoldsOk N L Z N W
    · have K1 := Lib.hid (tt_of hr)
      have KF := Lib.hid (tt_of (show FindOk N L Z from ⟨hr.1.1.1, holds_none hr⟩))
      have KG := Lib.hid (tt_no (show ¬ 0 < gainN N L Z by rw [gainN_yes hr.1.1.1, holds_none hr]; omega))
      rw [K1.out]
      clear hr
      go_wp2_with fail
      refine (specPriceHolds_any N gc N pc ga pa A L C Z W _ (by omega) HL.out (HT.out.below (Nat.le_refl _) B2.out) (by omega) (HW.out.below (Nat.le_refl _) B2.out)).mono ?_
      rintro e w3 ⟨rfl, hb3⟩
      rw [K1.out]
      have B3 := Lib.hid (below_chain B2.out hb3)
      clear hb3
      go_wp2_with fail
      refine (priceFind_cap N gc ga A L C Z _ (by omega) HL.out (HT.out.below (Nat.le_refl _) B3.out)).mono ?_
      rintro e w4 ⟨qa, qc, rfl, _, _, hb4⟩
      rw [KF.out]
      have B4 := Lib.hid (below_chain B3.out hb4)
      clear hb4
      go_wp2_with fail
      refine (rateGains_any N gc ga A L C Z _ (by omega) HL.out (HT.out.below (Nat.le_refl _) B4.out)).mono ?_
      rintro e w5 ⟨rfl, hb5⟩
      rw [KG.out]
      have B5 := Lib.hid (below_chain B4.out hb5)
      clear hb5
      go_wp2
      go_ret
      exact ⟨rfl, below_chain B1.out B5.out⟩
    · have K1 := Lib.hid (tt_no hr)
      rw [K1.out]
      clear hr
      go_wp2_with fail
      refine (specPriceHolds_any N gc N pc ga pa A L C Z W _ (by omega) HL.out (HT.out.below (Nat.le_refl _) B2.out) (by omega) (HW.out.below (Nat.le_refl _) B2.out)).mono ?_
      rintro e w3 ⟨rfl, hb3⟩
      rw [K1.out]
      have B3 := Lib.hid (below_chain B2.out hb3)
      clear hb3
      go_wp2
      go_ret
      exact ⟨rfl, below_chain B1.out B3.out⟩
  · have hd : 1048576 < n := by omega
    clear hb hab
    go_enter Try.func6, Try.ntmps6
    go_wp2_with fail
    go_ret
    exact ⟨rfl, Below.refl _ _⟩
end Go.Proofs.Ytakipaehoeapcaa
