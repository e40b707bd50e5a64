/- The program's PriceHolds. -/
import Derived.Test.YtakipaehoeapcaaReadPricedNo
import Derived.Test.YtakipaehoeapcaaHold
namespace Go.Proofs.Ytakipaehoeapcaa
set_option linter.unusedVariables false
open Go.RowKit

theorem priceHolds_eq {n : Nat} {L : Nat → Nat} {Z : Nat → Nat → Int} {W : Nat → Int} (h : BothOk n L Z n W) : tt (HoldsOk n L Z n W) = tt (HoldsF n (rateF n L Z) W) :=
  tt_congr ⟨fun h' i hi k hk => by rw [atF_rate h.1.1 hi hk]; exact h'.2 i hi k hk, fun h' => ⟨h, fun i hi k hk => by have := h' i hi k hk; rwa [atF_rate h.1.1 hi hk] at this⟩⟩

set_option maxHeartbeats 1600000 in
theorem priceHolds_any (n c m d : Nat) (a b : Option Addr) (A : Nat → Option Addr) (L C : Nat → Nat) (Z : Nat → Nat → Int) (W : Nat → Int) (w : World) (hn0 : n ≤ 1048576) (hL0 : ∀ r, r < n → L r ≤ 1048576) (ha0 : Tab w a n A L C Z) (hm1 : m ≤ 1048576) (hmd1 : m ≤ d) (hb1 : Rd w b m W) :
    Calls Try.prog 30 #[.slice a n c, .slice b m d] w fun e w' => e = .returned (.bool (tt (HoldsOk n L Z m W))) ∧ Below w.heap.size w w' := by
  by_cases ho : BothOk n L Z m W
  · obtain rfl := ho.2
    have H1 := Lib.hid (readPriced_yes n c d a b A L C Z W w hn0 hL0 ha0 hb1 ho)
    have HK := Lib.hid (Kept.of_rates ho.1.1)
    have HP := Lib.hid ho.1.2
    have HB := Lib.hid hb1
    have E := Lib.hid (priceHolds_eq ho)
    clear ho ha0 hb1 hL0 hmd1 hm1
    have t1 : True := trivial
    go_enter Try.func30, Try.ntmps30
    go_wp2_with (first
      | (go_at_call 68; refine H1.out.mono ?_; rintro e w0 ⟨rfl, hb0⟩; have B0 := Lib.hid hb0; clear hb0)
      | (have _t := t1; (with_reducible refine arr_alloc 25 _ (Try.zeroRates _) ?_); clear t1; intro w1 hA1 hs1 hb1; have S1 := Lib.hid hs1; have B1 := Lib.hid (below_chain B0.out hb1); clear hs1 hb1)
      | ((with_reducible refine box_alloc _ _ (Try.zeroPrices _) ?_); intro w2 hA2 hs2 hb2; have S2 := Lib.hid hs2; have R1 := Lib.hid (hA1.below hA1.lt hb2); have B2 := Lib.hid (B1.out.trans (hb2.mono B1.out.size)); clear hs2 hA1 hb2)
      | ((with_reducible refine arr_store 25 _ _ _ _ _ _ (rateF n L Z) ?_ ?_ R1.out Try.sizeRates ?_); exact rfl; exact rfl; intro w3 hA3 hs3 ho3 hb3; have hA2' := hA2.of_block (ho3 _ (by rw [S1.out]; omega)); have B3 := Lib.hid (B2.out.trans (hb3.mono B0.out.size)); clear hA2 hs3 ho3 hb3)
      | ((with_reducible refine box_store _ _ _ _ _ _ (.slice b n d) ?_ ?_ hA2' Try.sizePrices rfl ?_); exact rfl; exact rfl; intro w4 hA4 hs4 ho4 hb4; have hA5 := hA3.of_block (ho4 _ (by rw [S1.out]; omega)); have B4 := Lib.hid (B3.out.trans (hb4.mono B1.out.size)); clear hA3 hA2' hs4 ho4 hb4)
      | ((with_reducible refine box_load_g _ _ _ _ _ _ _ ?_ ?_ hA4 Try.underlying69 rfl Try.sizePrices ?_); exact rfl; exact rfl)
      | ((with_reducible refine arr_load_g 25 _ _ _ _ _ _ _ _ ?_ ?_ hA5 Try.underlying49 Try.sizeRates ?_); exact rfl; exact rfl)
      | (go_at_call 69; refine (hold_any n d b W _ _ HP.out HK.out (HB.out.below (Nat.le_refl _) B4.out)).mono ?_; rintro e w6 ⟨rfl, hb6⟩; have B6 := Lib.hid hb6; clear hb6))
    go_ret
    exact ⟨by rw [E.out]; rfl, below_chain B4.out B6.out⟩
  · have H1 := Lib.hid (readPriced_no n c m d a b A L C Z W w hn0 hL0 ha0 hm1 hb1 ho)
    have T1 := Lib.hid (tt_no (show ¬ HoldsOk n L Z m W from fun h => ho h.1))
    clear ho ha0 hb1 hL0 hmd1
    have t1 : True := trivial
    go_enter Try.func30, Try.ntmps30
    go_wp2_with (first
      | (go_at_call 68; refine H1.out.mono ?_; rintro e w0 ⟨rfl, hb0⟩; have B0 := Lib.hid hb0; clear hb0)
      | (have _t := t1; (with_reducible refine arr_alloc 25 _ (Try.zeroRates _) ?_); clear t1; intro w1 hA1 hs1 hb1; have S1 := Lib.hid hs1; have B1 := Lib.hid (below_chain B0.out hb1); clear hs1 hb1)
      | ((with_reducible refine box_alloc _ _ (Try.zeroPrices _) ?_); intro w2 hA2 hs2 hb2; have S2 := Lib.hid hs2; have R1 := Lib.hid (hA1.below hA1.lt hb2); have B2 := Lib.hid (B1.out.trans (hb2.mono B1.out.size)); clear hs2 hA1 hb2)
      | ((with_reducible refine arr_store 25 _ _ _ _ _ _ (fun _ => 0) ?_ ?_ R1.out Try.sizeRates ?_); exact rfl; exact rfl; intro w3 hA3 hs3 ho3 hb3; have hA2' := hA2.of_block (ho3 _ (by rw [S1.out]; omega)); have B3 := Lib.hid (B2.out.trans (hb3.mono B0.out.size)); clear hA2 hs3 ho3 hb3)
      | ((with_reducible refine box_store _ _ _ _ _ _ (.slice none 0 0) ?_ ?_ hA2' Try.sizePrices rfl ?_); exact rfl; exact rfl; intro w4 hA4 hs4 ho4 hb4; have hA5 := hA3.of_block (ho4 _ (by rw [S1.out]; omega)); have B4 := Lib.hid (B3.out.trans (hb4.mono B1.out.size)); clear hA3 hA2' hs4 ho4 hb4))
    go_ret
    exact ⟨by rw [T1.out]; rfl, B4.out⟩
end Go.Proofs.Ytakipaehoeapcaa
