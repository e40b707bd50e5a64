/- The walk of the law FnPriceFair: it answers true at every code that can be read. -/
import Derived.Test.YtbdbeeeffajbnaaDrawFitting
import Derived.Test.YtbdbeeeffajbnaaRateFair
import Derived.Test.YtbdbeeeffajbnaaSpecRateFair
import Derived.Test.YtbdbeeeffajbnaaPriceOf
namespace Go.Proofs.Ytbdbeeeffajbnaa
set_option linter.unusedVariables false
open Go.RowKit

set_option maxHeartbeats 3200000 in
theorem fnPriceFair_walk (n c : Nat) (a : Option Addr) (B : Nat → Nat) (w : World) (hc : n ≤ c) (hb : RdB w a n B) (hab : 0 < n → ∀ b o, a = some ⟨b, o, none⟩ → b < w.heap.size) :
    Calls Try.prog 8 #[.slice a n c] w fun e w' => e = .returned (.bool true) ∧ Below w.heap.size w w' := by
  by_cases hfit : n ≤ 1048576
  · have hd : ¬ (1048576 < n) := by omega
    have HD := Lib.hid (drawRateFair_any n c a B w hfit hc hb hab)
    clear hb hab
    go_enter Try.func8, Try.ntmps8
    go_wp2_with fail
    refine HD.out.mono ?_
    rintro e w1 ⟨ga, N, gc, A, L, C, Z, rfl, ⟨hN1, hN5⟩, hL, hT, hb1⟩
    have HT := Lib.hid hT
    have HL := Lib.hid (show ∀ r, r < N → L r ≤ 1048576 from fun r hr => by have := hL r hr; omega)
    have B1 := Lib.hid hb1
    clear hT hL hb1 HD
    go_wp2_with fail
    refine (rateFair_any N gc ga A L C Z _ (by omega) HL.out HT.out).mono ?_
    rintro e w2 ⟨rfl, hb2⟩
    have B2 := Lib.hid hb2
    clear hb2
    by_cases hr : FairOk N L Z
    · have K1 := Lib.hid (tt_of hr)
      rw [K1.out]
      clear hr
      go_wp2_with fail
      refine (specRateFair_any N gc ga A L C Z _ (by omega) HL.out (HT.out.below (Nat.le_refl _) B2.out)).mono ?_
      rintro e w3 ⟨rfl, hb3⟩
      rw [K1.out]
      have B3 := Lib.hid (below_chain B2.out hb3)
      clear hb3
      go_wp2_with fail
      refine (priceOf_any N gc ga A L C Z _ (by omega) HL.out (HT.out.below (Nat.le_refl _) B3.out)).mono ?_
      rintro e w4 ⟨pa, pc, rfl, hO4, hb4⟩
      rw [K1.out]
      have B4 := Lib.hid (below_chain B3.out hb4)
      clear hO4 hb4
      go_wp2
      go_ret
      exact ⟨rfl, below_chain B1.out B4.out⟩
    · have K1 := Lib.hid (tt_no hr)
      rw [K1.out]
      clear hr
      go_wp2_with fail
      refine (specRateFair_any N gc ga A L C Z _ (by omega) HL.out (HT.out.below (Nat.le_refl _) B2.out)).mono ?_
      rintro e w3 ⟨rfl, hb3⟩
      rw [K1.out]
      have B3 := Lib.hid (below_chain B2.out hb3)
      clear hb3
      go_wp2
      go_ret
      exact ⟨rfl, below_chain B1.out B3.out⟩
  · have hd : 1048576 < n := by omega
    clear hb hab
    go_enter Try.func8, Try.ntmps8
    go_wp2_with fail
    go_ret
    exact ⟨rfl, Below.refl _ _⟩
end Go.Proofs.Ytbdbeeeffajbnaa
