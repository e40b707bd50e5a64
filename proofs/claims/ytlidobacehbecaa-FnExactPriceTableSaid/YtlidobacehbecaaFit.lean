/- The program's fit. -/
import Derived.Test.YtlidobacehbecaaTable
import Derived.Test.YtlidobacehbecaaArrEq
namespace Go.Proofs.Ytlidobacehbecaa
set_option linter.unusedVariables false
open Go.RowKit

def FitF (n : Nat) (F : Nat → Int) (W : Nat → Int) : Prop := Divs n W ∧ SameF (tabQ n W) F

set_option maxHeartbeats 1600000 in
theorem fit_any (n d : Nat) (b : Option Addr) (W F : Nat → Int) (w : World) (hp : IsPrices n W) (hb : Rd w b n W) :
    Calls Try.prog 69 #[.agg #[.slice b n d], .agg (cellsV 25 F)] w fun e w' => e = .returned (.bool (tt (FitF n F W))) ∧ Below w.heap.size w w' := by
  have HP := Lib.hid hp
  have HB := Lib.hid hb
  clear hp hb
  by_cases hq : Divs n W
  · have T1 := Lib.hid (tt_of hq)
    have E := Lib.hid (show tt (FitF n F W) = tt (SameF (tabQ n W) F) from tt_congr ⟨fun h => h.2, fun h => ⟨hq, h⟩⟩)
    clear hq
    go_enter Try.func69, Try.ntmps69
    go_wp2_with (first
      | ((with_reducible refine box_box _ _ (.slice b n d) ?_ ?_); exact rfl; intro w1 hA1 hs1 hb1; have R1 := Lib.hid hA1; have B1 := Lib.hid hb1; clear hA1 hs1 hb1)
      | ((with_reducible refine arr_box 25 _ _ F ?_ ?_); exact rfl; intro w2 hA2 hs2 hb2; have R2 := Lib.hid hA2; have hR1 := R1.out.below R1.out.lt hb2; have B2 := Lib.hid (below_chain B1.out hb2); clear R1 hA2 hs2 hb2)
      | ((with_reducible refine box_load _ _ _ _ _ _ ?_ hR1 Try.underlying50 rfl Try.sizePrices ?_); exact rfl)
      | (go_at_call 79; refine (table_any n d b W _ HP.out (HB.out.below (Nat.le_refl _) B2.out)).mono ?_; rintro e w3 ⟨rfl, hb3⟩; rw [T1.out]; have R2' := Lib.hid (R2.out.below R2.out.lt hb3); have B3 := Lib.hid (below_chain B2.out hb3); clear R2 hb3)
      | ((with_reducible refine arr_alloc 25 _ (Try.zeroRates _) ?_); intro w4 hA4 hs4 hb4; have R3 := Lib.hid (R2'.out.below R2'.out.lt hb4); have hlt := R2'.out.lt; have B4 := Lib.hid (B3.out.trans (hb4.mono B3.out.size)); clear R2' hs4 hb4)
      | ((with_reducible refine arr_store 25 _ _ _ _ _ _ (tabQ n W) ?_ ?_ hA4 Try.sizeRates ?_); exact rfl; exact rfl; intro w5 hA5 hs5 ho5 hb5; have hR5 := R3.out.of_block (ho5 _ (by omega)); have B5 := Lib.hid (B4.out.trans (hb5.mono B3.out.size)); clear hA4 R3 hs5 ho5 hb5)
      | ((with_reducible refine arr_load_g 25 _ _ _ _ _ _ _ _ ?_ ?_ hA5 Try.underlying58 Try.sizeRates ?_); exact rfl; exact rfl)
      | ((with_reducible refine arr_load_g 25 _ _ _ _ _ _ _ _ ?_ ?_ hR5 Try.underlying58 Try.sizeRates ?_); exact rfl; exact rfl)
      | ((with_reducible refine wp_eql_g _ _ _ _ _ _ _ _ ?_ ?_ ?_ ?_ (Try.eqlRates (tabQ n W) F) ?_); exact rfl; exact rfl; exact rfl; kernel_rfl))
    go_ret
    exact ⟨by rw [E.out]; rfl, B5.out⟩
  · have T1 := Lib.hid (tt_no hq)
    have E := Lib.hid (tt_no (show ¬ FitF n F W from fun h => hq h.1))
    clear hq
    go_enter Try.func69, Try.ntmps69
    go_wp2_with (first
      | ((with_reducible refine box_box _ _ (.slice b n d) ?_ ?_); exact rfl; intro w1 hA1 hs1 hb1; have R1 := Lib.hid hA1; have B1 := Lib.hid hb1; clear hA1 hs1 hb1)
      | ((with_reducible refine arr_box 25 _ _ F ?_ ?_); exact rfl; intro w2 hA2 hs2 hb2; have R2 := Lib.hid hA2; have hR1 := R1.out.below R1.out.lt hb2; have B2 := Lib.hid (below_chain B1.out hb2); clear R1 hA2 hs2 hb2)
      | ((with_reducible refine box_load _ _ _ _ _ _ ?_ hR1 Try.underlying50 rfl Try.sizePrices ?_); exact rfl)
      | (go_at_call 79; refine (table_any n d b W _ HP.out (HB.out.below (Nat.le_refl _) B2.out)).mono ?_; rintro e w3 ⟨rfl, hb3⟩; rw [T1.out]; have B3 := Lib.hid (below_chain B2.out hb3); clear R2 hb3)
      | ((with_reducible refine arr_alloc 25 _ (Try.zeroRates _) ?_); intro w4 hA4 hs4 hb4; have B4 := Lib.hid (B3.out.trans (hb4.mono B3.out.size)); clear hs4 hb4)
      | ((with_reducible refine arr_store 25 _ _ _ _ _ _ (tabQ n W) ?_ ?_ hA4 Try.sizeRates ?_); exact rfl; exact rfl; intro w5 hA5 hs5 ho5 hb5; have B5 := Lib.hid (B4.out.trans (hb5.mono B3.out.size)); clear hA4 hs5 ho5 hb5))
    go_ret
    exact ⟨by rw [E.out]; rfl, B5.out⟩
end Go.Proofs.Ytlidobacehbecaa
