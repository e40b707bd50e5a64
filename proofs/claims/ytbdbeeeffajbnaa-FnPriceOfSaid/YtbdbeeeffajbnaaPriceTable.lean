/- The program's PriceTable. -/
import Derived.Test.YtbdbeeeffajbnaaTableModel
import Derived.Test.YtbdbeeeffajbnaaList
import Derived.Test.YtbdbeeeffajbnaaTurned
namespace Go.Proofs.Ytbdbeeeffajbnaa
set_option linter.unusedVariables false
open Go.RowKit

set_option maxHeartbeats 1600000 in
theorem priceTable_any (m d : Nat) (b : Option Addr) (W : Nat → Int) (w : World) (hm0 : m ≤ 1048576) (hmd0 : m ≤ d) (hb0 : Rd w b m W) :
    Calls Try.prog 39 #[.slice b m d] w (RetTB (tt (TableOk m W)) (tableN m W) (fun _ => m) (quoP W) w) := by
  have HB := Lib.hid hb0
  clear hmd0
  by_cases hp : IsPrices m W
  · have H1 := Lib.hid (readPrices_yes m d b W w hb0 hp)
    have HP := Lib.hid hp
    have h2 := hp.1.1
    have h5 := hp.1.2
    clear hb0
    by_cases hq : Divs m W
    · have hok : TableOk m W := ⟨hp, hq⟩
      have D1 := Lib.hid (tt_of hq)
      have T1 := Lib.hid (tt_of hok)
      have T2 := Lib.hid (tableN_yes hok)
      have HK := Lib.hid (Kept.table hok)
      have HO := Lib.hid hok
      clear hp hq hok
      go_enter Try.func39, Try.ntmps39
      go_wp2_with (first
        | (go_at_call 71; refine H1.out.mono ?_; rintro e w0 ⟨rfl, hb0⟩; have B0 := Lib.hid hb0; clear hb0)
        | ((with_reducible refine box_alloc _ _ (Try.zeroPrices _) ?_); intro w1 hA1 hs1 hb1; have B1 := Lib.hid (B0.out.trans (hb1.mono B0.out.size)); clear hs1 hb1)
        | ((with_reducible refine box_store _ _ _ _ _ _ (.slice b m d) ?_ ?_ hA1 Try.sizePrices rfl ?_); exact rfl; exact rfl; intro w2 hA2 hs2 ho2 hb2; have B2 := Lib.hid (B1.out.trans (hb2.mono B0.out.size)); clear hA1 hs2 ho2 hb2)
        | ((with_reducible refine box_load _ _ _ _ _ _ ?_ hA2 Try.underlying71 rfl Try.sizePrices ?_); exact rfl)
        | (go_at_call 84; refine (table_any m d b W _ HP.out (HB.out.below (Nat.le_refl _) B2.out)).mono ?_; rintro e w3 ⟨rfl, hb3⟩; rw [D1.out]; have B3 := Lib.hid (B2.out.trans (hb3.mono B2.out.size)); clear hb3)
        | ((with_reducible refine arr_alloc 25 _ (Try.zeroRates _) ?_); intro w4 hA4 hs4 hb4; have B4 := Lib.hid (B3.out.trans (hb4.mono B3.out.size)); clear hs4 hb4)
        | ((with_reducible refine arr_store 25 _ _ _ _ _ _ (tabQ m W) ?_ ?_ hA4 Try.sizeRates ?_); exact rfl; exact rfl; intro w5 hA5 hs5 ho5 hb5; have B5 := Lib.hid (B4.out.trans (hb5.mono B3.out.size)); clear hA4 hs5 ho5 hb5)
        | ((with_reducible refine arr_load 25 _ _ _ _ _ _ _ ?_ hA5 Try.underlying53 Try.sizeRates ?_); exact rfl)
        | (go_at_call 60; refine (list_any m _ _ HK.out h2).mono ?_; rintro e w6 ⟨ga, gc, gA, gC, rfl, hO, hb6⟩; have HO6 := Lib.hid hO; have B6 := Lib.hid (B5.out.trans (hb6.mono B5.out.size)); clear hO hb6))
      go_ret2
      refine ⟨ga, gc, gA, gC, by rw [T1.out, T2.out]; rfl, ?_, B6.out⟩
      rw [T2.out]
      exact (HO6.out.sub B5.out.size (Nat.le_refl _)).congr fun r k hr hk => by
        rw [atF_tabQ HO.out (by omega) (by omega), if_pos ⟨hr, hk⟩]
    · have D1 := Lib.hid (tt_no hq)
      have hno : ¬ TableOk m W := fun h => hq h.2
      have T1 := Lib.hid (tt_no hno)
      have T2 := Lib.hid (tableN_no hno)
      clear hp hq hno
      go_enter Try.func39, Try.ntmps39
      go_wp2_with (first
        | (go_at_call 71; refine H1.out.mono ?_; rintro e w0 ⟨rfl, hb0⟩; have B0 := Lib.hid hb0; clear hb0)
        | ((with_reducible refine box_alloc _ _ (Try.zeroPrices _) ?_); intro w1 hA1 hs1 hb1; have B1 := Lib.hid (B0.out.trans (hb1.mono B0.out.size)); clear hs1 hb1)
        | ((with_reducible refine box_store _ _ _ _ _ _ (.slice b m d) ?_ ?_ hA1 Try.sizePrices rfl ?_); exact rfl; exact rfl; intro w2 hA2 hs2 ho2 hb2; have B2 := Lib.hid (B1.out.trans (hb2.mono B0.out.size)); clear hA1 hs2 ho2 hb2)
        | ((with_reducible refine box_load _ _ _ _ _ _ ?_ hA2 Try.underlying71 rfl Try.sizePrices ?_); exact rfl)
        | (go_at_call 84; refine (table_any m d b W _ HP.out (HB.out.below (Nat.le_refl _) B2.out)).mono ?_; rintro e w3 ⟨rfl, hb3⟩; rw [D1.out]; have B3 := Lib.hid (B2.out.trans (hb3.mono B2.out.size)); clear hb3)
        | ((with_reducible refine arr_alloc 25 _ (Try.zeroRates _) ?_); intro w4 hA4 hs4 hb4; have B4 := Lib.hid (B3.out.trans (hb4.mono B3.out.size)); clear hs4 hb4)
        | ((with_reducible refine arr_store 25 _ _ _ _ _ _ (tabQ m W) ?_ ?_ hA4 Try.sizeRates ?_); exact rfl; exact rfl; intro w5 hA5 hs5 ho5 hb5; have B5 := Lib.hid (B4.out.trans (hb5.mono B3.out.size)); clear hA4 hs5 ho5 hb5))
      go_ret2
      exact ⟨none, 0, fun _ => none, fun _ => 0, by rw [T1.out, T2.out]; rfl, .inl T2.out, B5.out⟩
  · have H1 := Lib.hid (readPrices_no m d b W w hm0 hb0 hp)
    have hno : ¬ TableOk m W := fun h => hp h.1
    have T1 := Lib.hid (tt_no hno)
    have T2 := Lib.hid (tableN_no hno)
    clear hp hno hb0
    go_enter Try.func39, Try.ntmps39
    go_wp2_with (first
      | (go_at_call 71; refine H1.out.mono ?_; rintro e w0 ⟨rfl, hb0⟩; have B0 := Lib.hid hb0; clear hb0)
      | ((with_reducible refine box_alloc _ _ (Try.zeroPrices _) ?_); intro w1 hA1 hs1 hb1; have B1 := Lib.hid (B0.out.trans (hb1.mono B0.out.size)); clear hs1 hb1)
      | ((with_reducible refine box_store _ _ _ _ _ _ (.slice none 0 0) ?_ ?_ hA1 Try.sizePrices rfl ?_); exact rfl; exact rfl; intro w2 hA2 hs2 ho2 hb2; have B2 := Lib.hid (B1.out.trans (hb2.mono B0.out.size)); clear hA1 hs2 ho2 hb2))
    go_ret2
    exact ⟨none, 0, fun _ => none, fun _ => 0, by rw [T1.out, T2.out]; rfl, .inl T2.out, B2.out⟩
end Go.Proofs.Ytbdbeeeffajbnaa
