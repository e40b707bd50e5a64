/- The program's RateWay. -/
import Derived.Test.YtmjbocgoinfamaaReadRates
import Derived.Test.YtmjbocgoinfamaaHasWay
import Derived.Test.YtmjbocgoinfamaaWayValue
import Derived.Test.YtmjbocgoinfamaaWayModel
namespace Go.Proofs.Ytmjbocgoinfamaa
set_option linter.unusedVariables false
open Go.RowKit

set_option maxHeartbeats 800000 in
theorem rateWay_any (n c m d : Nat) (a b : Option Addr) (A : Nat → Option Addr) (L C : Nat → Nat) (Z : Nat → Nat → Int) (W : Nat → Int) (w : World) (hn0 : n ≤ 1048576) (hL0 : ∀ r, r < n → L r ≤ 1048576) (ha0 : Tab w a n A L C Z) (hm1 : m ≤ 1048576) (hmd1 : m ≤ d) (hb1 : Rd w b m W) :
    Calls Try.prog 14 #[.slice a n c, .slice b m d] w fun e w' => e = .returned (.tuple #[.int .i64 (wayAns n L Z m W), .bool (tt (WayOk n L Z m W))]) ∧ Below w.heap.size w w' := by
  have hn := hn0; have hL := hL0; have ha := ha0; have hm := hm1; have hb := hb1; have hmd := hmd1; clear hn0 hL0 ha0 hm1 hb1 hmd1
  have H1 := Lib.hid (readRates_any n c a A L C Z w hn hL ha)
  have HB := Lib.hid hb
  clear hL ha hb
  by_cases hr : IsRates n L Z
  · have T1 := Lib.hid (tt_of hr)
    have hn2 := hr.1.1
    have HK := Lib.hid (Kept.of_rates hr)
    have HR := Lib.hid hr
    clear hr
    by_cases hw : IsWay n m W
    · have T2 := Lib.hid (tt_of hw)
      have HW := Lib.hid hw
      have T3 := Lib.hid (tt_of (show WayOk n L Z m W from ⟨HR.out, hw⟩))
      have T4 := Lib.hid (wayAns_yes (show WayOk n L Z m W from ⟨HR.out, hw⟩))
      have T5 := Lib.hid (valF_congr (Z := atF (rateF n L Z)) (Y := Z) (W := W) (v := p12 ((n : Int) - 1 - m + 1).toNat) (m - 1) (fun j hj => by
        have h1 := hw.1.1 j (by omega)
        have h2 := hw.1.1 (j + 1) (by omega)
        exact atF_rate HR.out (by omega) (by omega)))
      clear hw
      go_enter Try.func14, Try.ntmps14
      go_wp2_with (first
        | (go_at_call 52; refine H1.out.mono ?_; rintro e w0 ⟨rfl, hb0⟩; rw [T1.out])
        | ((with_reducible refine arr_alloc 25 _ (Try.zeroRates _) ?_); intro w1 hA1 hs1 hb1; have S1 := Lib.hid hs1; clear hs1)
        | ((with_reducible refine arr_store 25 _ _ _ _ _ _ (rateF n L Z) ?_ ?_ hA1 Try.sizeRates ?_); exact rfl; exact rfl; intro w2 hA2 hs2 ho2 hb2; clear hA1; have B2 := Lib.hid ((hb0.trans (hb1.mono hb0.size)).trans (hb2.mono hb0.size)); clear hb0 hb1 hb2 hs2 ho2)
        | ((with_reducible refine arr_load 25 _ _ _ _ _ _ _ ?_ hA2 Try.underlying58 Try.sizeRates ?_); exact rfl)
        | ((with_reducible refine arr_load_g 25 _ _ _ _ _ _ _ _ ?_ ?_ hA2 Try.underlying58 Try.sizeRates ?_); exact rfl; exact rfl)
        | (go_at_call 53; refine (hasWay_any n m d _ b W _ HK.out hm (HB.out.below (Nat.le_refl _) B2.out)).mono ?_; rintro e w3 ⟨rfl, hb3⟩; rw [T2.out]; have hA3 := hA2.below hA2.lt hb3; clear hA2; have hA2 := hA3; clear hA3; have B3 := Lib.hid (B2.out.trans (hb3.mono B2.out.size)); clear hb3)
        | (go_at_call 54; refine (wayValue_any n m d _ b W _ HK.out hn2 HW.out hmd (HB.out.below (Nat.le_refl _) B3.out)).mono ?_; rintro e w4 ⟨rfl, hb4⟩; rw [T5.out]; have B4 := Lib.hid (B3.out.trans (hb4.mono B3.out.size)); clear hb4))
      go_ret2
      exact ⟨by rw [T3.out, T4.out]; rfl, B4.out⟩
    · have T2 := Lib.hid (tt_no hw)
      have T3 := Lib.hid (tt_no (show ¬ WayOk n L Z m W from fun h => hw h.2))
      have T4 := Lib.hid (wayAns_no (show ¬ WayOk n L Z m W from fun h => hw h.2))
      clear hw
      go_enter Try.func14, Try.ntmps14
      go_wp2_with (first
        | (go_at_call 52; refine H1.out.mono ?_; rintro e w0 ⟨rfl, hb0⟩; rw [T1.out])
        | ((with_reducible refine arr_alloc 25 _ (Try.zeroRates _) ?_); intro w1 hA1 hs1 hb1; have S1 := Lib.hid hs1; clear hs1)
        | ((with_reducible refine arr_store 25 _ _ _ _ _ _ (rateF n L Z) ?_ ?_ hA1 Try.sizeRates ?_); exact rfl; exact rfl; intro w2 hA2 hs2 ho2 hb2; clear hA1; have B2 := Lib.hid ((hb0.trans (hb1.mono hb0.size)).trans (hb2.mono hb0.size)); clear hb0 hb1 hb2 hs2 ho2)
        | ((with_reducible refine arr_load 25 _ _ _ _ _ _ _ ?_ hA2 Try.underlying58 Try.sizeRates ?_); exact rfl)
        | ((with_reducible refine arr_load_g 25 _ _ _ _ _ _ _ _ ?_ ?_ hA2 Try.underlying58 Try.sizeRates ?_); exact rfl; exact rfl)
        | (go_at_call 53; refine (hasWay_any n m d _ b W _ HK.out hm (HB.out.below (Nat.le_refl _) B2.out)).mono ?_; rintro e w3 ⟨rfl, hb3⟩; rw [T2.out]; have B3 := Lib.hid (B2.out.trans (hb3.mono B2.out.size)); clear hb3))
      go_ret2
      exact ⟨by rw [T3.out, T4.out]; rfl, B3.out⟩
  · have T1 := Lib.hid (tt_no hr)
    have T3 := Lib.hid (tt_no (show ¬ WayOk n L Z m W from fun h => hr h.1))
    have T4 := Lib.hid (wayAns_no (show ¬ WayOk n L Z m W from fun h => hr h.1))
    clear hr
    go_enter Try.func14, Try.ntmps14
    go_wp2_with (first
      | (go_at_call 52; refine H1.out.mono ?_; rintro e w0 ⟨rfl, hb0⟩; rw [T1.out])
      | ((with_reducible refine arr_alloc 25 _ (Try.zeroRates _) ?_); intro w1 hA1 hs1 hb1; have S1 := Lib.hid hs1; clear hs1)
      | ((with_reducible refine arr_store 25 _ _ _ _ _ _ (rateF n L Z) ?_ ?_ hA1 Try.sizeRates ?_); exact rfl; exact rfl; intro w2 hA2 hs2 ho2 hb2; clear hA1; have B2 := Lib.hid ((hb0.trans (hb1.mono hb0.size)).trans (hb2.mono hb0.size)); clear hb0 hb1 hb2 hs2 ho2))
    go_ret2
    exact ⟨by rw [T3.out, T4.out]; rfl, B2.out⟩
end Go.Proofs.Ytmjbocgoinfamaa
