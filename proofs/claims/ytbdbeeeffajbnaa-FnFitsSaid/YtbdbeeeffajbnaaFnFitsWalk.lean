/- The walk of the law FnFits: it answers true at every code that can be read. -/
import Derived.Test.YtbdbeeeffajbnaaDrawFits
import Derived.Test.YtbdbeeeffajbnaaPriceFits
import Derived.Test.YtbdbeeeffajbnaaSpecPriceFits
import Derived.Test.YtbdbeeeffajbnaaPriceHolds
import Derived.Test.YtbdbeeeffajbnaaRateFair
namespace Go.Proofs.Ytbdbeeeffajbnaa
set_option linter.unusedVariables false
open Go.RowKit

section
variable {n m : Nat} {L : Nat → Nat} {Z : Nat → Nat → Int} {W : Nat → Int}
theorem fits_holds (h : FitsOk n L Z m W) : HoldsOk n L Z m W := ⟨h.1, fun i hi k hk => Int.le_of_eq (h.2 i hi k hk)⟩
theorem fits_fair (h : FitsOk n L Z m W) : FairOk n L Z := by
  have hnm : n = m := h.1.2
  refine ⟨h.1.1.1, fun i hi k hk => ?_⟩
  have h0 : 0 < n := by omega
  have h1 := h.2 i hi 0 h0
  have h2 := h.2 0 h0 k hk
  have h3 := h.2 i hi k hk
  have hw := (h.1.1.2.2 k (by omega)).1
  refine Int.eq_of_mul_eq_mul_right (a := W k) (by omega) ?_
  calc Z i 0 * Z 0 k * W k = Z i 0 * (Z 0 k * W k) := by ac_rfl
    _ = Z i 0 * (12 * W 0) := by rw [h2]
    _ = 12 * (Z i 0 * W 0) := by ac_rfl
    _ = 12 * (Z i k * W k) := by rw [h1, h3]
    _ = 12 * Z i k * W k := by ac_rfl
end

set_option maxHeartbeats 3200000 in
theorem fnFits_walk (n c : Nat) (a : Option Addr) (B : Nat → Nat) (w : World) (hc : n ≤ c) (hb : RdB w a n B) (hab : 0 < n → ∀ b o, a = some ⟨b, o, none⟩ → b < w.heap.size) :
    Calls Try.prog 6 #[.slice a n c] w fun e w' => e = .returned (.bool true) ∧ Below w.heap.size w w' := by
  by_cases hfit : n ≤ 1048576
  · have hd : ¬ (1048576 < n) := by omega
    have HD := Lib.hid (drawPriceFits_any n c a B w hfit hc hb hab)
    clear hb hab
    go_enter Try.func6, Try.ntmps6
    go_wp2_with fail
    refine HD.out.mono ?_
    rintro e w1 ⟨ga, N, gc, A, L, C, Z, pa, pc, W, rfl, ⟨hN1, hN5, hcap⟩, hL, hT, hW, hb1⟩
    have HT := Lib.hid hT
    have HW := Lib.hid hW
    have HL := Lib.hid (show ∀ r, r < N → L r ≤ 1048576 from fun r hr => by have := hL r hr; omega)
    have B1 := Lib.hid hb1
    clear hT hW hL hb1 HD
    go_wp2_with fail
    refine (priceFits_any N gc N pc ga pa A L C Z W _ (by omega) HL.out HT.out (by omega) hcap HW.out).mono ?_
    rintro e w2 ⟨rfl, hb2⟩
    have B2 := Lib.hid hb2
    clear hb2
    by_cases hr : FitsOk N L Z N W
    · have K1 := Lib.hid (tt_of hr)
      have KH := Lib.hid (tt_of (fits_holds hr))
      have KR := Lib.hid (tt_of (fits_fair hr))
      rw [K1.out]
      clear hr
      go_wp2_with fail
      refine (specPriceFits_any N gc N pc ga pa A L C Z W _ (by omega) HL.out (HT.out.below (Nat.le_refl _) B2.out) (by omega) (HW.out.below (Nat.le_refl _) B2.out)).mono ?_
      rintro e w3 ⟨rfl, hb3⟩
      rw [K1.out]
      have B3 := Lib.hid (below_chain B2.out hb3)
      clear hb3
      go_wp2_with fail
      refine (priceHolds_any N gc N pc ga pa A L C Z W _ (by omega) HL.out (HT.out.below (Nat.le_refl _) B3.out) (by omega) hcap (HW.out.below (Nat.le_refl _) B3.out)).mono ?_
      rintro e w4 ⟨rfl, hb4⟩
      rw [KH.out]
      have B4 := Lib.hid (below_chain B3.out hb4)
      clear hb4
      go_wp2_with fail
      refine (rateFair_any N gc ga A L C Z _ (by omega) HL.out (HT.out.below (Nat.le_refl _) B4.out)).mono ?_
      rintro e w5 ⟨rfl, hb5⟩
      rw [KR.out]
      have B5 := Lib.hid (below_chain B4.out hb5)
      clear hb5
      go_wp2
      go_ret
      exact ⟨rfl, below_chain B1.out B5.out⟩
    · have K1 := Lib.hid (tt_no hr)
      rw [K1.out]
      clear hr
      go_wp2_with fail
      refine (specPriceFits_any N gc N pc ga pa A L C Z W _ (by omega) HL.out (HT.out.below (Nat.le_refl _) B2.out) (by omega) (HW.out.below (Nat.le_refl _) B2.out)).mono ?_
      rintro e w3 ⟨rfl, hb3⟩
      rw [K1.out]
      have B3 := Lib.hid (below_chain B2.out hb3)
      clear hb3
      go_wp2
      go_ret
      exact ⟨rfl, below_chain B1.out B3.out⟩
  · have hd : 1048576 < n := by omega
    clear hb hab
    go_enter Try.func6, Try.ntmps6
    go_wp2_with fail
    go_ret
    exact ⟨rfl, Below.refl _ _⟩
end Go.Proofs.Ytbdbeeeffajbnaa
