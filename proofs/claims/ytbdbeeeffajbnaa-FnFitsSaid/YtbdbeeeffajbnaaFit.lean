/- The program's fit. -/
/- Prices fit just if the table of them is there and is the one given. -/
import Derived.Test.YtbdbeeeffajbnaaTable
import Derived.Test.YtbdbeeeffajbnaaArrEq
namespace Go.Proofs.Ytbdbeeeffajbnaa
set_option linter.unusedVariables false

section
open Go.RowKit
def FitF (n : Nat) (F : Nat → Int) (W : Nat → Int) : Prop := Divs n W ∧ SameF (tabQ n W) F

set_option maxHeartbeats 1600000 in
theorem fit_any (n d : Nat) (b : Option Addr) (W F : Nat → Int) (w : World) (hp : IsPrices n W) (hb : Rd w b n W) :
    Calls Try.prog 77 #[.agg #[.slice b n d], .agg (cellsV 25 F)] w fun e w' => e = .returned (.bool (tt (FitF n F W))) ∧ Below w.heap.size w w' := by
  have HP := Lib.hid hp
  have HB := Lib.hid hb
  clear hp hb
  by_cases hq : Divs n W
  · have T1 := Lib.hid (tt_of hq)
    have E := Lib.hid (show tt (FitF n F W) = tt (SameF (tabQ n W) F) from tt_congr ⟨fun h => h.2, fun h => ⟨hq, h⟩⟩)
    clear hq
    go_enter Try.func77, Try.ntmps77
    go_wp2_with (first
      | ((with_reducible refine box_box _ _ (.slice b n d) ?_ ?_); exact rfl; intro w1 hA1 hs1 hb1; have R1 := Lib.hid hA1; have B1 := Lib.hid hb1; clear hA1 hs1 hb1)
      | ((with_reducible refine arr_box 25 _ _ F ?_ ?_); exact rfl; intro w2 hA2 hs2 hb2; have R2 := Lib.hid hA2; have hR1 := R1.out.below R1.out.lt hb2; have B2 := Lib.hid (below_chain B1.out hb2); clear R1 hA2 hs2 hb2)
      | ((with_reducible refine box_load _ _ _ _ _ _ ?_ hR1 Try.underlying71 rfl Try.sizePrices ?_); exact rfl)
      | (go_at_call 84; refine (table_any n d b W _ HP.out (HB.out.below (Nat.le_refl _) B2.out)).mono ?_; rintro e w3 ⟨rfl, hb3⟩; rw [T1.out]; have R2' := Lib.hid (R2.out.below R2.out.lt hb3); have B3 := Lib.hid (below_chain B2.out hb3); clear R2 hb3)
      | ((with_reducible refine arr_alloc 25 _ (Try.zeroRates _) ?_); intro w4 hA4 hs4 hb4; have R3 := Lib.hid (R2'.out.below R2'.out.lt hb4); have hlt := R2'.out.lt; have B4 := Lib.hid (B3.out.trans (hb4.mono B3.out.size)); clear R2' hs4 hb4)
      | ((with_reducible refine arr_store 25 _ _ _ _ _ _ (tabQ n W) ?_ ?_ hA4 Try.sizeRates ?_); exact rfl; exact rfl; intro w5 hA5 hs5 ho5 hb5; have hR5 := R3.out.of_block (ho5 _ (by omega)); have B5 := Lib.hid (B4.out.trans (hb5.mono B3.out.size)); clear hA4 R3 hs5 ho5 hb5)
      | ((with_reducible refine arr_load_g 25 _ _ _ _ _ _ _ _ ?_ ?_ hA5 Try.underlying53 Try.sizeRates ?_); exact rfl; exact rfl)
      | ((with_reducible refine arr_load_g 25 _ _ _ _ _ _ _ _ ?_ ?_ hR5 Try.underlying53 Try.sizeRates ?_); exact rfl; exact rfl)
      | ((with_reducible refine wp_eql_g _ _ _ _ _ _ _ _ ?_ ?_ ?_ ?_ (Try.eqlRates (tabQ n W) F) ?_); exact rfl; exact rfl; exact rfl; kernel_rfl))
    go_ret
    exact ⟨by rw [E.out]; rfl, B5.out⟩
  · have T1 := Lib.hid (tt_no hq)
    have E := Lib.hid (tt_no (show ¬ FitF n F W from fun h => hq h.1))
    clear hq
    go_enter Try.func77, Try.ntmps77
    go_wp2_with (first
      | ((with_reducible refine box_box _ _ (.slice b n d) ?_ ?_); exact rfl; intro w1 hA1 hs1 hb1; have R1 := Lib.hid hA1; have B1 := Lib.hid hb1; clear hA1 hs1 hb1)
      | ((with_reducible refine arr_box 25 _ _ F ?_ ?_); exact rfl; intro w2 hA2 hs2 hb2; have R2 := Lib.hid hA2; have hR1 := R1.out.below R1.out.lt hb2; have B2 := Lib.hid (below_chain B1.out hb2); clear R1 hA2 hs2 hb2)
      | ((with_reducible refine box_load _ _ _ _ _ _ ?_ hR1 Try.underlying71 rfl Try.sizePrices ?_); exact rfl)
      | (go_at_call 84; refine (table_any n d b W _ HP.out (HB.out.below (Nat.le_refl _) B2.out)).mono ?_; rintro e w3 ⟨rfl, hb3⟩; rw [T1.out]; have B3 := Lib.hid (below_chain B2.out hb3); clear R2 hb3)
      | ((with_reducible refine arr_alloc 25 _ (Try.zeroRates _) ?_); intro w4 hA4 hs4 hb4; have B4 := Lib.hid (B3.out.trans (hb4.mono B3.out.size)); clear hs4 hb4)
      | ((with_reducible refine arr_store 25 _ _ _ _ _ _ (tabQ n W) ?_ ?_ hA4 Try.sizeRates ?_); exact rfl; exact rfl; intro w5 hA5 hs5 ho5 hb5; have B5 := Lib.hid (B4.out.trans (hb5.mono B3.out.size)); clear hA4 hs5 ho5 hb5))
    go_ret
    exact ⟨by rw [E.out]; rfl, B5.out⟩
end

section
open Go.RowKit
theorem quo_iff {z x y : Int} (hy : 1 ≤ y) : z * y = 12 * x ↔ 12 * x % y = 0 ∧ 12 * x / y = z := by
  constructor
  · intro h
    rw [← h]
    exact ⟨Int.mul_emod_left _ _, Int.mul_ediv_cancel _ (by omega)⟩
  · rintro ⟨h1, h2⟩
    rw [← h2]
    exact Int.ediv_mul_cancel (Int.dvd_of_emod_eq_zero h1)

theorem fitF_iff {n : Nat} {L : Nat → Nat} {Z : Nat → Nat → Int} {W : Nat → Int} (hr : IsRates n L Z) (hp : IsPrices n W) :
    FitF n (rateF n L Z) W ↔ ∀ i, i < n → ∀ k, k < n → Z i k * W k = 12 * W i := by
  have h5 := hr.1.2
  constructor
  · rintro ⟨h1, h2⟩ i hi k hk
    have h3 := h2 i (by omega) k (by omega)
    rw [tabQ_yes (tt_of h1)] at h3
    have e1 : (i * 5 + k) / 5 = i := by omega
    have e2 : (i * 5 + k) % 5 = k := by omega
    unfold partQ at h3
    rw [e1, e2, if_pos (by omega)] at h3
    have h4 : rateF n L Z (i * 5 + k) = Z i k := atF_rate hr hi hk
    rw [h4] at h3
    exact (quo_iff (hp.2 k hk).1).2 ⟨h1 i hi k hk, h3⟩
  · intro h
    have h1 : Divs n W := fun i hi k hk => ((quo_iff (hp.2 k hk).1).1 (h i hi k hk)).1
    refine ⟨h1, fun i hi k hk => ?_⟩
    rw [tabQ_yes (tt_of h1)]
    have e1 : (i * 5 + k) / 5 = i := by omega
    have e2 : (i * 5 + k) % 5 = k := by omega
    rw [← rateF_yes hr]
    unfold partQ
    rw [e1, e2]
    by_cases hin : i < n ∧ k < n
    · rw [if_pos (by omega), if_pos hin]
      exact ((quo_iff (hp.2 k hin.2).1).1 (h i hin.1 k hin.2)).2
    · rw [if_neg (by omega), if_neg hin]

theorem priceFits_eq {n : Nat} {L : Nat → Nat} {Z : Nat → Nat → Int} {W : Nat → Int} (h : BothOk n L Z n W) : tt (FitsOk n L Z n W) = tt (FitF n (rateF n L Z) W) :=
  tt_congr ⟨fun h' => (fitF_iff h.1.1 h.1.2).2 h'.2, fun h' => ⟨h, (fitF_iff h.1.1 h.1.2).1 h'⟩⟩
end

end Go.Proofs.Ytbdbeeeffajbnaa
