/- The program's PriceOf. -/
import Derived.Test.YtbdbeeeffajbnaaOfModel
import Derived.Test.YtbdbeeeffajbnaaLowest
import Derived.Test.YtbdbeeeffajbnaaTurned
import Derived.Test.YtbdbeeeffajbnaaFit
namespace Go.Proofs.Ytbdbeeeffajbnaa
set_option linter.unusedVariables false
open Go.RowKit

theorem col_eq {n : Nat} {L : Nat → Nat} {Z : Nat → Nat → Int} (hr : IsRates n L Z) {k : Nat} (hk : k < n) : turnedF (rateF n L Z) (0 * 5 + k) = colF Z k := by
  have h2 := hr.1.1
  have h5 := hr.1.2
  have h := atF_turned (rateF n L Z) (i := 0) (k := k) (by omega) (by omega)
  rw [atF_rate hr hk (by omega)] at h
  exact h

/-- What a call hands back: a row of its own with its room, and whether. -/
def RetIC (ok : Bool) (n : Nat) (X : Nat → Int) (w : World) (e : Ending) (w' : World) : Prop :=
  ∃ a c, e = .returned (.tuple #[.slice a n c, .bool ok]) ∧ n ≤ c ∧ OwnI w' w.heap.size w'.heap.size a n X ∧ Below w.heap.size w w'

set_option maxHeartbeats 3200000 in
theorem priceOf_cap (n c : Nat) (a : Option Addr) (A : Nat → Option Addr) (L C : Nat → Nat) (Z : Nat → Nat → Int) (w : World) (hn0 : n ≤ 1048576) (hL0 : ∀ r, r < n → L r ≤ 1048576) (ha0 : Tab w a n A L C Z) :
    Calls Try.prog 37 #[.slice a n c] w (RetIC (tt (FairOk n L Z)) (ofN n L Z) (leastF (colF Z) n) w) := by
  have H1 := Lib.hid (readRates_any n c a A L C Z w hn0 hL0 ha0)
  clear hL0 ha0
  by_cases hr : IsRates n L Z
  · have T1 := Lib.hid (tt_of hr)
    have HK := Lib.hid (Kept.of_rates hr)
    have HC := Lib.hid (fun k (hk : k < n) => col_eq hr hk)
    have HX := Lib.hid (show ∀ k, k < n → 1 ≤ colF Z k ∧ colF Z k ≤ 1000000000000000000 from fun k hk => by have := col_range hr k hk; omega)
    have HP := Lib.hid (col_prices hr)
    have hfit := fit_col hr
    have hn2 := hr.1.1
    have hn5 := hr.1.2
    have hsl := fun (g : Nat) (w : World) => run_slice_arr (P := Try.prog) 51 3 5 n g 0 Try.underlying51 (by kernel_rfl) (by decide) hn5 w
    obtain ⟨P, hP⟩ : ∃ P, P = leastF (colF Z) n := ⟨_, rfl⟩
    rw [← hP] at HP hfit ⊢
    have QP := Lib.hid hP
    obtain ⟨F, hF⟩ : ∃ F, F = rateF n L Z := ⟨_, rfl⟩
    rw [← hF] at hfit HC HK
    have QF := Lib.hid hF
    clear hP hF
    have t1 : True := trivial
    have t2 : True := trivial
    by_cases hm : FairMid n Z
    · have TF := Lib.hid (tt_of (hfit.2 hm))
      have T2 := Lib.hid (tt_of (show FairOk n L Z from ⟨hr, hm⟩))
      have T3 := Lib.hid (ofN_yes (show FairOk n L Z from ⟨hr, hm⟩))
      clear hm hr hfit
      go_enter Try.func37, Try.ntmps37
      go_wp2_with (first
        | (go_at_call 57; refine H1.out.mono ?_; rintro e w0 ⟨rfl, hb0⟩; rw [T1.out, ← QF.out]; have B0 := Lib.hid hb0; clear hb0)
        | (have _t := t1; (with_reducible refine arr_alloc 25 _ (Try.zeroRates _) ?_); clear t1; intro w1 hA1 hs1 hb1; have B1 := Lib.hid (B0.out.trans (hb1.mono B0.out.size)); clear hs1 hb1)
        | (have _t := t2; (with_reducible refine arr_store 25 _ _ _ _ _ _ F ?_ ?_ hA1 Try.sizeRates ?_); exact rfl; exact rfl; clear t2; intro w2 hA hs2 ho2 hb2; have B2 := Lib.hid (B1.out.trans (hb2.mono B0.out.size)); clear hA1 hs2 ho2 hb2)
        | ((with_reducible refine arr_load 25 _ _ _ _ _ _ _ ?_ hA Try.underlying53 Try.sizeRates ?_); exact rfl)
        | (go_at_call 59; refine (turned_any _ _).mono ?_; rintro e w3 ⟨rfl, hb3⟩; have hA3 := hA.below hA.lt hb3; have B3 := Lib.hid (B2.out.trans (hb3.mono B2.out.size)); clear hA hb3; have hA := hA3; clear hA3)
        | ((with_reducible refine arr_index_row 25 5 5 _ _ _ _ _ (turnedF F) .i64 0 ?_ ?_ (by decide) ?_ Try.underlying53 Try.underlying51 Try.sizeFive ?_); exact rfl; exact rfl; omega)
        | ((with_reducible refine arr_alloc 5 _ (Try.zeroFive _) ?_); intro w4 hC4 hs4 hb4; have hA4 := hA.below hA.lt hb4; have hne := Nat.ne_of_lt hA.lt; have B4 := Lib.hid (B3.out.trans (hb4.mono B3.out.size)); clear hA hs4 hb4)
        | ((with_reducible refine arr_store 5 _ _ _ _ _ _ (fun k => turnedF F (0 * 5 + k)) ?_ ?_ hC4 Try.sizeFive ?_); exact rfl; exact rfl; intro w5 hC5 hs5 ho5 hb5; have hA := hA4.of_block (ho5 _ hne); have B5 := Lib.hid (B4.out.trans (hb5.mono B3.out.size)); clear hA4 hne hC4 hs5 ho5 hb5)
        | (go_at_call 61; refine (size_any n _ _ HK.out).mono ?_; rintro e w6 ⟨rfl, hb6⟩; have hA6 := hA.below hA.lt hb6; have hC6 := hC5.below hC5.lt hb6; have B6 := Lib.hid (B5.out.trans (hb6.mono B5.out.size)); clear hA hC5 hb6)
        | (go_at_call 82; refine (lowest_any n 5 (some ⟨w3.heap.size, 0, none⟩) (colF Z) _ (by omega) hn5 (fun k hk => ⟨_, 0, rfl, by rw [Nat.zero_add, ← HC.out k hk]; exact hC6.cell (j := k) (by omega)⟩) HX.out).mono ?_; rw [← QP.out]; rintro e w7 ⟨g7, cap7, rfl, ⟨hg1, hg2, hg3⟩, hO7, hb7⟩; have hA := hA6.below hA6.lt hb7; have B7 := Lib.hid (B6.out.trans (hb7.mono B6.out.size)); clear hA6 hC6 hb7)
        | ((with_reducible refine box_alloc _ _ (Try.zeroPrices _) ?_); intro w8 hD8 hs8 hb8; have hA8 := hA.below hA.lt hb8; have hO8 := hO7.of_block (hb8.block _ hg2); have hne := Nat.ne_of_lt hA.lt; have B8 := Lib.hid (B7.out.trans (hb8.mono B7.out.size)); clear hA hO7 hb8)
        | ((with_reducible refine box_store _ _ _ _ _ _ (.slice (some ⟨g7, 0, none⟩) n cap7) ?_ ?_ hD8 Try.sizePrices rfl ?_); exact rfl; exact rfl; intro w9 hD hs9 ho9 hb9; have hA := hA8.of_block (ho9 _ hne); have hO := Lib.hid (hO8.of_block (ho9 _ (Nat.ne_of_lt hg2))); have hlt9 := Nat.lt_of_lt_of_le hg2 (Nat.le_trans (Nat.le_of_lt (Nat.lt_of_lt_of_eq (Nat.lt_succ_self _) hs8.symm)) (Nat.le_of_eq hs9.symm)); have B9 := Lib.hid (B8.out.trans (hb9.mono B7.out.size)); clear hD8 hA8 hO8 hne hs8 hs9 ho9 hb9)
        | ((with_reducible refine box_load _ _ _ _ _ _ ?_ hD Try.underlying71 rfl Try.sizePrices ?_); exact rfl)
        | (go_at_call 77; refine (fit_any n cap7 (some ⟨g7, 0, none⟩) P F _ HP.out hO.out.rd).mono ?_; rintro e w10 ⟨rfl, hb10⟩; rw [TF.out]; have hcD := (hD.below hD.lt hb10).cell; have hO10 := Lib.hid (hO.out.of_block (hb10.block _ hlt9)); have B10 := Lib.hid (B9.out.trans (hb10.mono B9.out.size)); have hlt10 := Nat.lt_of_lt_of_le hlt9 hb10.size; clear hA hD hb10))
      go_ret2
      refine ⟨_, _, by rw [T2.out, T3.out]; rfl, by rw [T3.out]; exact hg3, ?_, B10.out⟩
      rw [T3.out]
      exact .inr ⟨g7, Nat.le_trans B6.out.size hg1, hlt10, hO10.out⟩
    · have TF := Lib.hid (tt_no (fun h => hm (hfit.1 h)))
      have T2 := Lib.hid (tt_no (show ¬ FairOk n L Z from fun h => hm h.2))
      have T3 := Lib.hid (ofN_no (show ¬ FairOk n L Z from fun h => hm h.2))
      clear hm hr hfit
      go_enter Try.func37, Try.ntmps37
      go_wp2_with (first
        | (go_at_call 57; refine H1.out.mono ?_; rintro e w0 ⟨rfl, hb0⟩; rw [T1.out, ← QF.out]; have B0 := Lib.hid hb0; clear hb0)
        | (have _t := t1; (with_reducible refine arr_alloc 25 _ (Try.zeroRates _) ?_); clear t1; intro w1 hA1 hs1 hb1; have B1 := Lib.hid (B0.out.trans (hb1.mono B0.out.size)); clear hs1 hb1)
        | (have _t := t2; (with_reducible refine arr_store 25 _ _ _ _ _ _ F ?_ ?_ hA1 Try.sizeRates ?_); exact rfl; exact rfl; clear t2; intro w2 hA hs2 ho2 hb2; have B2 := Lib.hid (B1.out.trans (hb2.mono B0.out.size)); clear hA1 hs2 ho2 hb2)
        | ((with_reducible refine arr_load 25 _ _ _ _ _ _ _ ?_ hA Try.underlying53 Try.sizeRates ?_); exact rfl)
        | (go_at_call 59; refine (turned_any _ _).mono ?_; rintro e w3 ⟨rfl, hb3⟩; have hA3 := hA.below hA.lt hb3; have B3 := Lib.hid (B2.out.trans (hb3.mono B2.out.size)); clear hA hb3; have hA := hA3; clear hA3)
        | ((with_reducible refine arr_index_row 25 5 5 _ _ _ _ _ (turnedF F) .i64 0 ?_ ?_ (by decide) ?_ Try.underlying53 Try.underlying51 Try.sizeFive ?_); exact rfl; exact rfl; omega)
        | ((with_reducible refine arr_alloc 5 _ (Try.zeroFive _) ?_); intro w4 hC4 hs4 hb4; have hA4 := hA.below hA.lt hb4; have hne := Nat.ne_of_lt hA.lt; have B4 := Lib.hid (B3.out.trans (hb4.mono B3.out.size)); clear hA hs4 hb4)
        | ((with_reducible refine arr_store 5 _ _ _ _ _ _ (fun k => turnedF F (0 * 5 + k)) ?_ ?_ hC4 Try.sizeFive ?_); exact rfl; exact rfl; intro w5 hC5 hs5 ho5 hb5; have hA := hA4.of_block (ho5 _ hne); have B5 := Lib.hid (B4.out.trans (hb5.mono B3.out.size)); clear hA4 hne hC4 hs5 ho5 hb5)
        | (go_at_call 61; refine (size_any n _ _ HK.out).mono ?_; rintro e w6 ⟨rfl, hb6⟩; have hA6 := hA.below hA.lt hb6; have hC6 := hC5.below hC5.lt hb6; have B6 := Lib.hid (B5.out.trans (hb6.mono B5.out.size)); clear hA hC5 hb6)
        | (go_at_call 82; refine (lowest_any n 5 (some ⟨w3.heap.size, 0, none⟩) (colF Z) _ (by omega) hn5 (fun k hk => ⟨_, 0, rfl, by rw [Nat.zero_add, ← HC.out k hk]; exact hC6.cell (j := k) (by omega)⟩) HX.out).mono ?_; rw [← QP.out]; rintro e w7 ⟨g7, cap7, rfl, ⟨hg1, hg2, hg3⟩, hO7, hb7⟩; have hA := hA6.below hA6.lt hb7; have B7 := Lib.hid (B6.out.trans (hb7.mono B6.out.size)); clear hA6 hC6 hb7)
        | ((with_reducible refine box_alloc _ _ (Try.zeroPrices _) ?_); intro w8 hD8 hs8 hb8; have hA8 := hA.below hA.lt hb8; have hO8 := hO7.of_block (hb8.block _ hg2); have hne := Nat.ne_of_lt hA.lt; have B8 := Lib.hid (B7.out.trans (hb8.mono B7.out.size)); clear hA hO7 hb8)
        | ((with_reducible refine box_store _ _ _ _ _ _ (.slice (some ⟨g7, 0, none⟩) n cap7) ?_ ?_ hD8 Try.sizePrices rfl ?_); exact rfl; exact rfl; intro w9 hD hs9 ho9 hb9; have hA := hA8.of_block (ho9 _ hne); have hO := Lib.hid (hO8.of_block (ho9 _ (Nat.ne_of_lt hg2))); have B9 := Lib.hid (B8.out.trans (hb9.mono B7.out.size)); clear hD8 hA8 hO8 hne hs8 hs9 ho9 hb9)
        | ((with_reducible refine box_load _ _ _ _ _ _ ?_ hD Try.underlying71 rfl Try.sizePrices ?_); exact rfl)
        | (go_at_call 77; refine (fit_any n cap7 (some ⟨g7, 0, none⟩) P F _ HP.out hO.out.rd).mono ?_; rintro e w10 ⟨rfl, hb10⟩; rw [TF.out]; have B10 := Lib.hid (B9.out.trans (hb10.mono B9.out.size)); clear hA hD hb10))
      go_ret2
      exact ⟨none, 0, by rw [T2.out, T3.out]; rfl, Nat.le_of_eq T3.out, .inl T3.out, B10.out⟩
  · have T1 := Lib.hid (tt_no hr)
    have T2 := Lib.hid (tt_no (show ¬ FairOk n L Z from fun h => hr h.1))
    have T3 := Lib.hid (ofN_no (show ¬ FairOk n L Z from fun h => hr h.1))
    clear hr
    go_enter Try.func37, Try.ntmps37
    go_wp2_with (first
      | (go_at_call 57; refine H1.out.mono ?_; rintro e w0 ⟨rfl, hb0⟩; rw [T1.out]; have B0 := Lib.hid hb0; clear hb0)
      | ((with_reducible refine arr_alloc 25 _ (Try.zeroRates _) ?_); intro w1 hA1 hs1 hb1; have B1 := Lib.hid (B0.out.trans (hb1.mono B0.out.size)); clear hs1 hb1)
      | ((with_reducible refine arr_store 25 _ _ _ _ _ _ (rateF n L Z) ?_ ?_ hA1 Try.sizeRates ?_); exact rfl; exact rfl; intro w2 hA2 hs2 ho2 hb2; have B2 := Lib.hid (B1.out.trans (hb2.mono B0.out.size)); clear hA1 hs2 ho2 hb2))
    go_ret2
    exact ⟨none, 0, by rw [T2.out, T3.out]; rfl, Nat.le_of_eq T3.out, .inl T3.out, B2.out⟩

theorem priceOf_any (n c : Nat) (a : Option Addr) (A : Nat → Option Addr) (L C : Nat → Nat) (Z : Nat → Nat → Int) (w : World) (hn0 : n ≤ 1048576) (hL0 : ∀ r, r < n → L r ≤ 1048576) (ha0 : Tab w a n A L C Z) :
    Calls Try.prog 37 #[.slice a n c] w (RetIB (tt (FairOk n L Z)) (ofN n L Z) (leastF (colF Z) n) w) := by
  refine (priceOf_cap n c a A L C Z w hn0 hL0 ha0).mono ?_
  rintro e w' ⟨b, d, he, _, hO, hb⟩
  exact ⟨b, d, he, hO, hb⟩
end Go.Proofs.Ytbdbeeeffajbnaa
