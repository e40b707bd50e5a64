/- The program's RateTurn. -/
import Derived.Test.YtmjbocgoinfamaaReadRates
import Derived.Test.YtmjbocgoinfamaaTurned
import Derived.Test.YtmjbocgoinfamaaList
import Derived.Test.YtmjbocgoinfamaaMem
namespace Go.Proofs.Ytmjbocgoinfamaa
set_option linter.unusedVariables false
open Go.RowKit

set_option maxHeartbeats 1000000 in
theorem rateTurn_any (n c : Nat) (a : Option Addr) (A : Nat → Option Addr) (L C : Nat → Nat) (Z : Nat → Nat → Int) (w : World) (hn0 : n ≤ 1048576) (hL0 : ∀ r, r < n → L r ≤ 1048576) (ha0 : Tab w a n A L C Z) :
    Calls Try.prog 17 #[.slice a n c] w (RetTB (tt (IsRates n L Z)) (turnN n L Z) (fun _ => n) (turnX Z) w) := by
  have H1 := Lib.hid (readRates_any n c a A L C Z w hn0 hL0 ha0)
  clear hL0 ha0
  by_cases hr : IsRates n L Z
  · have T1 := Lib.hid (tt_of hr)
    have T2 := Lib.hid (turnN_yes hr)
    have HK := Lib.hid (Kept.of_rates hr)
    have HR := Lib.hid hr
    have hn2 := hr.1.1
    have hn5 := hr.1.2
    clear hr
    go_enter Try.func17, Try.ntmps17
    go_wp2_with (first
      | (go_at_call 52; refine H1.out.mono ?_; rintro e w0 ⟨rfl, hb0⟩; rw [T1.out])
      | ((with_reducible refine arr_alloc 25 _ (Try.zeroRates _) ?_); intro w1 hA1 hs1 hb1; have S1 := Lib.hid hs1; clear hs1)
      | ((with_reducible refine arr_store 25 _ _ _ _ _ _ (rateF n L Z) ?_ ?_ hA1 Try.sizeRates ?_); exact rfl; exact rfl; intro w2 hA2 hs2 ho2 hb2; clear hA1; have B2 := Lib.hid ((hb0.trans (hb1.mono hb0.size)).trans (hb2.mono hb0.size)); clear hb0 hb1 hb2 hs2 ho2)
      | ((with_reducible refine arr_load 25 _ _ _ _ _ _ _ ?_ hA2 Try.underlying58 Try.sizeRates ?_); exact rfl)
      | (go_at_call 62; refine (turned_any _ _).mono ?_; rintro e w3 ⟨rfl, hb3⟩; have B3 := Lib.hid (B2.out.trans (hb3.mono B2.out.size)); clear hb3)
      | (go_at_call 63; refine (list_any n _ _ HK.out.turned hn2).mono ?_; rintro e w4 ⟨ga, gc, gA, gC, rfl, hO, hb4⟩; have HO := Lib.hid hO; have B4 := Lib.hid (B3.out.trans (hb4.mono B3.out.size)); clear hO hb4))
    go_ret2
    refine ⟨ga, gc, gA, gC, by rw [T1.out, T2.out]; rfl, ?_, B4.out⟩
    rw [T2.out]
    exact (HO.out.sub B3.out.size (Nat.le_refl _)).congr fun r k hr hk => by
      rw [atF_turned _ (by omega) (by omega), atF_rate HR.out hk hr]; rfl
  · have T1 := Lib.hid (tt_no hr)
    have T2 := Lib.hid (turnN_no hr)
    clear hr
    go_enter Try.func17, Try.ntmps17
    go_wp2_with (first
      | (go_at_call 52; refine H1.out.mono ?_; rintro e w0 ⟨rfl, hb0⟩; rw [T1.out])
      | ((with_reducible refine arr_alloc 25 _ (Try.zeroRates _) ?_); intro w1 hA1 hs1 hb1; have S1 := Lib.hid hs1; clear hs1)
      | ((with_reducible refine arr_store 25 _ _ _ _ _ _ (rateF n L Z) ?_ ?_ hA1 Try.sizeRates ?_); exact rfl; exact rfl; intro w2 hA2 hs2 ho2 hb2; clear hA1; have B2 := Lib.hid ((hb0.trans (hb1.mono hb0.size)).trans (hb2.mono hb0.size)); clear hb0 hb1 hb2 hs2 ho2))
    go_ret2
    exact ⟨none, 0, fun _ => none, fun _ => 0, by rw [T1.out, T2.out]; rfl, .inl T2.out, B2.out⟩
end Go.Proofs.Ytmjbocgoinfamaa
