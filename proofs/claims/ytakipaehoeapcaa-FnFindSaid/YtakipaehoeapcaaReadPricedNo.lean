/- The program's readPriced, where there are none. -/
import Derived.Test.YtakipaehoeapcaaReadPriced
namespace Go.Proofs.Ytakipaehoeapcaa
set_option linter.unusedVariables false
open Go.RowKit

set_option maxHeartbeats 1600000 in
theorem readPriced_no (n c m d : Nat) (a b : Option Addr) (A : Nat → Option Addr) (L C : Nat → Nat) (Z : Nat → Nat → Int) (W : Nat → Int) (w : World) (hn0 : n ≤ 1048576) (hL0 : ∀ r, r < n → L r ≤ 1048576) (ha0 : Tab w a n A L C Z) (hm1 : m ≤ 1048576) (hb1 : Rd w b m W) (ho : ¬ BothOk n L Z m W) :
    Calls Try.prog 68 #[.slice a n c, .slice b m d] w fun e w' => e = .returned (.tuple #[.agg (cellsV 25 (fun _ => 0)), .agg #[.slice none 0 0], .bool false]) ∧ Below w.heap.size w w' := by
  have HA := Lib.hid ha0
  have HB := Lib.hid hb1
  have HL := Lib.hid hL0
  clear ha0 hb1 hL0
  by_cases hr : IsRates n L Z
  · have T1 := Lib.hid (tt_of hr)
    have HK := Lib.hid (Kept.of_rates hr)
    by_cases hp : IsPrices m W
    · have hne : ((m : Int) != (n : Int)) = true := by
        have : n ≠ m := fun e => ho ⟨⟨hr, hp⟩, e⟩
        simp; omega
      have HP := Lib.hid hp
      clear hr hp ho
      have t1 : True := trivial
      have t2 : True := trivial
      have t3 : True := trivial
      have t4 : True := trivial
      have t5 : True := trivial
      have t6 : True := trivial
      go_enter Try.func68, Try.ntmps68
      go_wp2_with (first
        | (have _t := t1; (with_reducible refine arr_alloc 25 _ (Try.zeroRates _) ?_); clear t1; intro w1 hA1 hs1 hb1; have S1 := Lib.hid hs1; clear hs1)
        | (have _t := t2; (with_reducible refine box_alloc _ _ (Try.zeroPrices _) ?_); clear t2; intro w2 hA2 hs2 hb2; have S2 := Lib.hid hs2; have R1 := Lib.hid (hA1.below hA1.lt hb2); have R2 := Lib.hid hA2; have RB := Lib.hid (below_chain hb1 hb2); clear hs2 hA1 hA2 hb1 hb2)
        | (go_at_call 50; refine (readRates_any n c a A L C Z _ hn0 HL.out (HA.out.below (Nat.le_refl _) RB.out)).mono ?_; rintro e w3 ⟨rfl, hb3⟩; rw [T1.out]; have B3 := Lib.hid hb3; clear hb3)
        | (have _t := t3; (with_reducible refine arr_alloc 25 _ (Try.zeroRates _) ?_); clear t3; intro w4 hA4 hs4 hb4; have S4 := Lib.hid hs4; clear hs4; have B4 := Lib.hid (B3.out.trans (hb4.mono B3.out.size)); clear hb4)
        | (have _t := t4; (with_reducible refine arr_store 25 _ _ _ _ _ _ (rateF n L Z) ?_ ?_ hA4 Try.sizeRates ?_); exact rfl; exact rfl; clear t4; intro w5 hA5 hs5 ho5 hb5; have R7 := Lib.hid hA5; have B5 := Lib.hid (B4.out.trans (hb5.mono B3.out.size)); clear hA4 hA5 hs5 ho5 hb5 B4)
        | (go_at_call 76; refine (readPrices_yes m d b W _ (HB.out.below (Nat.le_refl _) (below_chain RB.out B5.out)) HP.out).mono ?_; rintro e w6 ⟨rfl, hb6⟩; have B6 := Lib.hid hb6; clear hb6)
        | (have _t := t5; (with_reducible refine box_alloc _ _ (Try.zeroPrices _) ?_); clear t5; intro w7 hA7 hs7 hb7; have B7 := Lib.hid hb7; clear hs7 hb7)
        | (have _t := t6; (with_reducible refine box_store _ _ _ _ _ _ (.slice b m d) ?_ ?_ hA7 Try.sizePrices rfl ?_); exact rfl; exact rfl; clear t6; intro w8 hA8 hs8 ho8 hb8; have hR7 := ((R7.out.below R7.out.lt B6.out).below (Nat.lt_of_lt_of_le R7.out.lt B6.out.size) B7.out).below (Nat.lt_of_lt_of_le R7.out.lt B6.out.size) hb8; have B8 := Lib.hid (below_chain B5.out (B6.out.trans ((B7.out.mono B6.out.size).trans (hb8.mono B6.out.size)))); have r1 := R1.out.below R1.out.lt B8.out; have r2 := R2.out.below R2.out.lt B8.out; clear hA7 hA8 hs8 ho8 hb8)
        | ((with_reducible refine arr_load_g 25 _ _ _ _ _ _ _ _ ?_ ?_ hR7 Try.underlying49 Try.sizeRates ?_); exact rfl; exact rfl)
        | (go_at_call 81; refine (size_any n _ _ HK.out).mono ?_; rintro e w9 ⟨rfl, hb9⟩; have r1' := r1.below r1.lt hb9; have r2' := r2.below r2.lt hb9; have B8' := Lib.hid (B8.out.trans (hb9.mono B8.out.size)); clear r1 r2 hb9; have r1 := r1'; have r2 := r2'; clear r1' r2')
        | (with_reducible refine arr_build0 25 _ Try.builtRates ?_)
        | ((with_reducible refine arr_store 25 _ _ _ _ _ _ (fun _ => 0) ?_ ?_ r1 Try.sizeRates ?_); exact rfl; exact rfl; intro wA rA hsA hoA hbA; have r2A := r2.of_block (hoA _ (by rw [S1.out]; omega)); have HBA := Lib.hid ((below_chain RB.out B8'.out).trans (hbA.mono (Nat.le_refl _))); clear r1 r2 hoA hsA hbA)
        | ((with_reducible refine box_store _ _ _ _ _ _ (.slice none 0 0) ?_ ?_ r2A Try.sizePrices rfl ?_); exact rfl; exact rfl; intro wC rC hsC hoC hbC; have rAC := rA.of_block (hoC _ (by rw [S1.out]; omega)); have hBC := HBA.out.trans (hbC.mono (by rw [S1.out]; omega)); clear hoC hsC rA r2A hbC))
      refine bodyPost_ret (v := .tuple #[.agg (cellsV 25 (fun _ => 0)), .agg #[.slice none 0 0], .bool false]) ?_ rfl ⟨rfl, hBC⟩
      rw [results_arr_box_tmp (F := fun _ => 0) Try.results68 _ _ w.heap.size 49 25 _ _ w1.heap.size 69 (.slice none 0 0) _ rfl rAC Try.underlying49 Try.sizeRates rfl rC Try.underlying69 rfl Try.sizePrices]
      rfl
    · have HP := Lib.hid hp
      clear hr hp ho
      have t1 : True := trivial
      have t2 : True := trivial
      have t3 : True := trivial
      have t4 : True := trivial
      have t5 : True := trivial
      have t6 : True := trivial
      go_enter Try.func68, Try.ntmps68
      go_wp2_with (first
        | (have _t := t1; (with_reducible refine arr_alloc 25 _ (Try.zeroRates _) ?_); clear t1; intro w1 hA1 hs1 hb1; have S1 := Lib.hid hs1; clear hs1)
        | (have _t := t2; (with_reducible refine box_alloc _ _ (Try.zeroPrices _) ?_); clear t2; intro w2 hA2 hs2 hb2; have S2 := Lib.hid hs2; have R1 := Lib.hid (hA1.below hA1.lt hb2); have R2 := Lib.hid hA2; have RB := Lib.hid (below_chain hb1 hb2); clear hs2 hA1 hA2 hb1 hb2)
        | (go_at_call 50; refine (readRates_any n c a A L C Z _ hn0 HL.out (HA.out.below (Nat.le_refl _) RB.out)).mono ?_; rintro e w3 ⟨rfl, hb3⟩; rw [T1.out]; have B3 := Lib.hid hb3; clear hb3)
        | (have _t := t3; (with_reducible refine arr_alloc 25 _ (Try.zeroRates _) ?_); clear t3; intro w4 hA4 hs4 hb4; have S4 := Lib.hid hs4; clear hs4; have B4 := Lib.hid (B3.out.trans (hb4.mono B3.out.size)); clear hb4)
        | (have _t := t4; (with_reducible refine arr_store 25 _ _ _ _ _ _ (rateF n L Z) ?_ ?_ hA4 Try.sizeRates ?_); exact rfl; exact rfl; clear t4; intro w5 hA5 hs5 ho5 hb5; have R7 := Lib.hid hA5; have B5 := Lib.hid (B4.out.trans (hb5.mono B3.out.size)); clear hA4 hA5 hs5 ho5 hb5 B4)
        | (go_at_call 76; refine (readPrices_no m d b W _ hm1 (HB.out.below (Nat.le_refl _) (below_chain RB.out B5.out)) HP.out).mono ?_; rintro e w6 ⟨rfl, hb6⟩; have B6 := Lib.hid hb6; clear hb6)
        | (have _t := t5; (with_reducible refine box_alloc _ _ (Try.zeroPrices _) ?_); clear t5; intro w7 hA7 hs7 hb7; have B7 := Lib.hid hb7; clear hs7 hb7)
        | (have _t := t6; (with_reducible refine box_store _ _ _ _ _ _ (.slice none 0 0) ?_ ?_ hA7 Try.sizePrices rfl ?_); exact rfl; exact rfl; clear t6; intro w8 hA8 hs8 ho8 hb8; have hR7 := ((R7.out.below R7.out.lt B6.out).below (Nat.lt_of_lt_of_le R7.out.lt B6.out.size) B7.out).below (Nat.lt_of_lt_of_le R7.out.lt B6.out.size) hb8; have B8 := Lib.hid (below_chain B5.out (B6.out.trans ((B7.out.mono B6.out.size).trans (hb8.mono B6.out.size)))); have r1 := R1.out.below R1.out.lt B8.out; have r2 := R2.out.below R2.out.lt B8.out; clear hA7 hA8 hs8 ho8 hb8)
        | (with_reducible refine arr_build0 25 _ Try.builtRates ?_)
        | ((with_reducible refine arr_store 25 _ _ _ _ _ _ (fun _ => 0) ?_ ?_ r1 Try.sizeRates ?_); exact rfl; exact rfl; intro wA rA hsA hoA hbA; have r2A := r2.of_block (hoA _ (by rw [S1.out]; omega)); have HBA := Lib.hid ((below_chain RB.out B8.out).trans (hbA.mono (Nat.le_refl _))); clear r1 r2 hoA hsA hbA)
        | ((with_reducible refine box_store _ _ _ _ _ _ (.slice none 0 0) ?_ ?_ r2A Try.sizePrices rfl ?_); exact rfl; exact rfl; intro wC rC hsC hoC hbC; have rAC := rA.of_block (hoC _ (by rw [S1.out]; omega)); have hBC := HBA.out.trans (hbC.mono (by rw [S1.out]; omega)); clear hoC hsC rA r2A hbC))
      refine bodyPost_ret (v := .tuple #[.agg (cellsV 25 (fun _ => 0)), .agg #[.slice none 0 0], .bool false]) ?_ rfl ⟨rfl, hBC⟩
      rw [results_arr_box_tmp (F := fun _ => 0) Try.results68 _ _ w.heap.size 49 25 _ _ w1.heap.size 69 (.slice none 0 0) _ rfl rAC Try.underlying49 Try.sizeRates rfl rC Try.underlying69 rfl Try.sizePrices]
      rfl
  · have T1 := Lib.hid (tt_no hr)
    clear hr ho
    by_cases hp : IsPrices m W
    · have HP := Lib.hid hp
      clear hp
      have t1 : True := trivial
      have t2 : True := trivial
      have t3 : True := trivial
      have t4 : True := trivial
      have t5 : True := trivial
      have t6 : True := trivial
      go_enter Try.func68, Try.ntmps68
      go_wp2_with (first
        | (have _t := t1; (with_reducible refine arr_alloc 25 _ (Try.zeroRates _) ?_); clear t1; intro w1 hA1 hs1 hb1; have S1 := Lib.hid hs1; clear hs1)
        | (have _t := t2; (with_reducible refine box_alloc _ _ (Try.zeroPrices _) ?_); clear t2; intro w2 hA2 hs2 hb2; have S2 := Lib.hid hs2; have R1 := Lib.hid (hA1.below hA1.lt hb2); have R2 := Lib.hid hA2; have RB := Lib.hid (below_chain hb1 hb2); clear hs2 hA1 hA2 hb1 hb2)
        | (go_at_call 50; refine (readRates_any n c a A L C Z _ hn0 HL.out (HA.out.below (Nat.le_refl _) RB.out)).mono ?_; rintro e w3 ⟨rfl, hb3⟩; rw [T1.out]; have B3 := Lib.hid hb3; clear hb3)
        | (have _t := t3; (with_reducible refine arr_alloc 25 _ (Try.zeroRates _) ?_); clear t3; intro w4 hA4 hs4 hb4; have S4 := Lib.hid hs4; clear hs4; have B4 := Lib.hid (B3.out.trans (hb4.mono B3.out.size)); clear hb4)
        | (have _t := t4; (with_reducible refine arr_store 25 _ _ _ _ _ _ (rateF n L Z) ?_ ?_ hA4 Try.sizeRates ?_); exact rfl; exact rfl; clear t4; intro w5 hA5 hs5 ho5 hb5; have R7 := Lib.hid hA5; have B5 := Lib.hid (B4.out.trans (hb5.mono B3.out.size)); clear hA4 hA5 hs5 ho5 hb5 B4)
        | (go_at_call 76; refine (readPrices_yes m d b W _ (HB.out.below (Nat.le_refl _) (below_chain RB.out B5.out)) HP.out).mono ?_; rintro e w6 ⟨rfl, hb6⟩; have B6 := Lib.hid hb6; clear hb6)
        | (have _t := t5; (with_reducible refine box_alloc _ _ (Try.zeroPrices _) ?_); clear t5; intro w7 hA7 hs7 hb7; have B7 := Lib.hid hb7; clear hs7 hb7)
        | (have _t := t6; (with_reducible refine box_store _ _ _ _ _ _ (.slice b m d) ?_ ?_ hA7 Try.sizePrices rfl ?_); exact rfl; exact rfl; clear t6; intro w8 hA8 hs8 ho8 hb8; have hR7 := ((R7.out.below R7.out.lt B6.out).below (Nat.lt_of_lt_of_le R7.out.lt B6.out.size) B7.out).below (Nat.lt_of_lt_of_le R7.out.lt B6.out.size) hb8; have B8 := Lib.hid (below_chain B5.out (B6.out.trans ((B7.out.mono B6.out.size).trans (hb8.mono B6.out.size)))); have r1 := R1.out.below R1.out.lt B8.out; have r2 := R2.out.below R2.out.lt B8.out; clear hA7 hA8 hs8 ho8 hb8)
        | (with_reducible refine arr_build0 25 _ Try.builtRates ?_)
        | ((with_reducible refine arr_store 25 _ _ _ _ _ _ (fun _ => 0) ?_ ?_ r1 Try.sizeRates ?_); exact rfl; exact rfl; intro wA rA hsA hoA hbA; have r2A := r2.of_block (hoA _ (by rw [S1.out]; omega)); have HBA := Lib.hid ((below_chain RB.out B8.out).trans (hbA.mono (Nat.le_refl _))); clear r1 r2 hoA hsA hbA)
        | ((with_reducible refine box_store _ _ _ _ _ _ (.slice none 0 0) ?_ ?_ r2A Try.sizePrices rfl ?_); exact rfl; exact rfl; intro wC rC hsC hoC hbC; have rAC := rA.of_block (hoC _ (by rw [S1.out]; omega)); have hBC := HBA.out.trans (hbC.mono (by rw [S1.out]; omega)); clear hoC hsC rA r2A hbC))
      refine bodyPost_ret (v := .tuple #[.agg (cellsV 25 (fun _ => 0)), .agg #[.slice none 0 0], .bool false]) ?_ rfl ⟨rfl, hBC⟩
      rw [results_arr_box_tmp (F := fun _ => 0) Try.results68 _ _ w.heap.size 49 25 _ _ w1.heap.size 69 (.slice none 0 0) _ rfl rAC Try.underlying49 Try.sizeRates rfl rC Try.underlying69 rfl Try.sizePrices]
      rfl
    · have HP := Lib.hid hp
      clear hp
      have t1 : True := trivial
      have t2 : True := trivial
      have t3 : True := trivial
      have t4 : True := trivial
      have t5 : True := trivial
      have t6 : True := trivial
      go_enter Try.func68, Try.ntmps68
      go_wp2_with (first
        | (have _t := t1; (with_reducible refine arr_alloc 25 _ (Try.zeroRates _) ?_); clear t1; intro w1 hA1 hs1 hb1; have S1 := Lib.hid hs1; clear hs1)
        | (have _t := t2; (with_reducible refine box_alloc _ _ (Try.zeroPrices _) ?_); clear t2; intro w2 hA2 hs2 hb2; have S2 := Lib.hid hs2; have R1 := Lib.hid (hA1.below hA1.lt hb2); have R2 := Lib.hid hA2; have RB := Lib.hid (below_chain hb1 hb2); clear hs2 hA1 hA2 hb1 hb2)
        | (go_at_call 50; refine (readRates_any n c a A L C Z _ hn0 HL.out (HA.out.below (Nat.le_refl _) RB.out)).mono ?_; rintro e w3 ⟨rfl, hb3⟩; rw [T1.out]; have B3 := Lib.hid hb3; clear hb3)
        | (have _t := t3; (with_reducible refine arr_alloc 25 _ (Try.zeroRates _) ?_); clear t3; intro w4 hA4 hs4 hb4; have S4 := Lib.hid hs4; clear hs4; have B4 := Lib.hid (B3.out.trans (hb4.mono B3.out.size)); clear hb4)
        | (have _t := t4; (with_reducible refine arr_store 25 _ _ _ _ _ _ (rateF n L Z) ?_ ?_ hA4 Try.sizeRates ?_); exact rfl; exact rfl; clear t4; intro w5 hA5 hs5 ho5 hb5; have R7 := Lib.hid hA5; have B5 := Lib.hid (B4.out.trans (hb5.mono B3.out.size)); clear hA4 hA5 hs5 ho5 hb5 B4)
        | (go_at_call 76; refine (readPrices_no m d b W _ hm1 (HB.out.below (Nat.le_refl _) (below_chain RB.out B5.out)) HP.out).mono ?_; rintro e w6 ⟨rfl, hb6⟩; have B6 := Lib.hid hb6; clear hb6)
        | (have _t := t5; (with_reducible refine box_alloc _ _ (Try.zeroPrices _) ?_); clear t5; intro w7 hA7 hs7 hb7; have B7 := Lib.hid hb7; clear hs7 hb7)
        | (have _t := t6; (with_reducible refine box_store _ _ _ _ _ _ (.slice none 0 0) ?_ ?_ hA7 Try.sizePrices rfl ?_); exact rfl; exact rfl; clear t6; intro w8 hA8 hs8 ho8 hb8; have hR7 := ((R7.out.below R7.out.lt B6.out).below (Nat.lt_of_lt_of_le R7.out.lt B6.out.size) B7.out).below (Nat.lt_of_lt_of_le R7.out.lt B6.out.size) hb8; have B8 := Lib.hid (below_chain B5.out (B6.out.trans ((B7.out.mono B6.out.size).trans (hb8.mono B6.out.size)))); have r1 := R1.out.below R1.out.lt B8.out; have r2 := R2.out.below R2.out.lt B8.out; clear hA7 hA8 hs8 ho8 hb8)
        | (with_reducible refine arr_build0 25 _ Try.builtRates ?_)
        | ((with_reducible refine arr_store 25 _ _ _ _ _ _ (fun _ => 0) ?_ ?_ r1 Try.sizeRates ?_); exact rfl; exact rfl; intro wA rA hsA hoA hbA; have r2A := r2.of_block (hoA _ (by rw [S1.out]; omega)); have HBA := Lib.hid ((below_chain RB.out B8.out).trans (hbA.mono (Nat.le_refl _))); clear r1 r2 hoA hsA hbA)
        | ((with_reducible refine box_store _ _ _ _ _ _ (.slice none 0 0) ?_ ?_ r2A Try.sizePrices rfl ?_); exact rfl; exact rfl; intro wC rC hsC hoC hbC; have rAC := rA.of_block (hoC _ (by rw [S1.out]; omega)); have hBC := HBA.out.trans (hbC.mono (by rw [S1.out]; omega)); clear hoC hsC rA r2A hbC))
      refine bodyPost_ret (v := .tuple #[.agg (cellsV 25 (fun _ => 0)), .agg #[.slice none 0 0], .bool false]) ?_ rfl ⟨rfl, hBC⟩
      rw [results_arr_box_tmp (F := fun _ => 0) Try.results68 _ _ w.heap.size 49 25 _ _ w1.heap.size 69 (.slice none 0 0) _ rfl rAC Try.underlying49 Try.sizeRates rfl rC Try.underlying69 rfl Try.sizePrices]
      rfl
end Go.Proofs.Ytakipaehoeapcaa
