/- The program's RateNamed. -/
import Derived.Test.YtmjbocgoinfamaaTurned
import Derived.Test.YtmjbocgoinfamaaList
import Derived.Test.YtmjbocgoinfamaaAreDifferent
import Derived.Test.YtmjbocgoinfamaaNamed
namespace Go.Proofs.Ytmjbocgoinfamaa
set_option linter.unusedVariables false
set_option maxRecDepth 100000
open Go.RowKit

section
variable {n r s : Nat} {p : Nat → Int} {L : Nat → Nat} {Z : Nat → Nat → Int}
theorem atF_named (h : IsRates n L Z) (hd : IsDiff n n p) (hr : r < n) (hs : s < n) : atF (partA n (atF (rateF n L Z)) p n 0) r s = namedX n Z p r s := by
  have h5 := h.1.2
  have e1 : (r * 5 + s) / 5 = r := by omega
  have e2 : (r * 5 + s) % 5 = s := by omega
  show (if (r * 5 + s) / 5 < n ∧ (r * 5 + s) % 5 < n then partN n (atF (rateF n L Z)) p n 0 ((r * 5 + s) / 5) ((r * 5 + s) % 5) else 0) = _
  rw [e1, e2, if_pos ⟨hr, hs⟩, partN_all hd hr]
  exact atF_rate h (hd.inv hr).1 (hd.inv hs).1
theorem Kept.named (h : IsRates n L Z) (hd : IsDiff n n p) : Kept n (partA n (atF (rateF n L Z)) p n 0) := by
  have h5 := h.1.2
  refine ⟨h5, fun i hi => ?_, fun hn => ?_, fun i k hi hk => ?_⟩
  · rw [atF_named h hd hi hi]
    unfold namedX
    have := (hd.inv hi).1
    rw [((h.2 _ this).2 _ this).2 rfl]; decide
  · have e1 : (n * 5 + n) / 5 = n := by omega
    unfold atF partA
    rw [e1, if_neg (by omega)]
  · rw [atF_named h hd hi hk]
    unfold namedX
    have := ((h.2 _ (hd.inv hi).1).2 _ (hd.inv hk).1).1
    omega
end

set_option maxHeartbeats 1600000 in
theorem rateNamed_any (n c m d : Nat) (a b : Option Addr) (A : Nat → Option Addr) (L C : Nat → Nat) (Z : Nat → Nat → Int) (W : Nat → Int) (w : World) (hn0 : n ≤ 1048576) (hL0 : ∀ r, r < n → L r ≤ 1048576) (ha0 : Tab w a n A L C Z) (hm1 : m ≤ 1048576) (hmd1 : m ≤ d) (hb1 : Rd w b m W) :
    Calls Try.prog 37 #[.slice a n c, .slice b m d] w (RetTB (tt (NamedOk n m L Z W)) (namedN n m L Z W) (fun _ => n) (namedX n Z W) w) := by
  have hn := hn0; have hL := hL0; have ha := ha0; have hm := hm1; have hb := hb1; have hmd := hmd1; clear hn0 hL0 ha0 hm1 hb1 hmd1
  have H1 := Lib.hid (readRates_any n c a A L C Z w hn hL ha)
  have HB := Lib.hid hb
  clear hL ha hb
  by_cases hr : IsRates n L Z
  · have T1 := Lib.hid (tt_of hr)
    have hn2 := hr.1.1
    have hn5 := hr.1.2
    have HK := Lib.hid (Kept.of_rates hr)
    have HR := Lib.hid hr
    clear hr
    by_cases hmn : m = n
    · subst hmn
      by_cases hd : IsDiff m m W
      · have T2 := Lib.hid (tt_of hd)
        have HD := Lib.hid hd
        have T3 := Lib.hid (tt_of (show NamedOk m m L Z W from ⟨HR.out, rfl, hd⟩))
        have T4 := Lib.hid (namedN_yes (show NamedOk m m L Z W from ⟨HR.out, rfl, hd⟩))
        have hq : ((m : Int) != m) = false := by simp
        clear hd
        have t1 : True := trivial
        go_enter Try.func37, Try.ntmps37
        go_wp2_with (first
          | (go_at_call 52; refine H1.out.mono ?_; rintro e w0 ⟨rfl, hb0⟩; rw [T1.out])
          | ((with_reducible refine arr_alloc 25 _ (Try.zeroRates _) ?_); intro w1 hA1 hs1 hb1; have S1 := Lib.hid hs1; clear hs1)
          | ((with_reducible refine arr_store 25 _ _ _ _ _ _ (rateF m L Z) ?_ ?_ hA1 Try.sizeRates ?_); exact rfl; exact rfl; intro w2 hA2 hs2 ho2 hb2; clear hA1; have B2 := Lib.hid ((hb0.trans (hb1.mono hb0.size)).trans (hb2.mono hb0.size)); clear hb0 hb1 hb2 hs2 ho2)
          | ((with_reducible refine arr_load 25 _ _ _ _ _ _ _ ?_ hA2 Try.underlying58 Try.sizeRates ?_); exact rfl)
          | ((with_reducible refine arr_load_g 25 _ _ _ _ _ _ _ _ ?_ ?_ hA2 Try.underlying58 Try.sizeRates ?_); exact rfl; exact rfl)
          | (go_at_call 59; refine (size_any m _ _ HK.out).mono ?_; rintro e w3 ⟨rfl, hb3⟩; have hA3 := hA2.below hA2.lt hb3; clear hA2; have hA2 := hA3; clear hA3; have B3 := Lib.hid (B2.out.trans (hb3.mono B2.out.size)); clear hb3)
          | (go_at_call 82; refine (areDifferent_any m m d b W _ (by omega) hm (HB.out.below (Nat.le_refl _) B3.out)).mono ?_; rintro e w4 ⟨rfl, rfl⟩; rw [T2.out])
          | (go_at_call 83; refine (named_any m d _ W b _ (by omega) hn5 HD.out (HB.out.below (Nat.le_refl _) B3.out)).mono ?_; rintro e w5 ⟨rfl, hb5⟩; have B5 := Lib.hid (B3.out.trans (hb5.mono B3.out.size)); clear hb5)
          | (go_at_call 63; refine (list_any m _ _ (Kept.named HR.out HD.out) hn2).mono ?_; rintro e w6 ⟨ga, gc, gA, gC, rfl, hO, hb6⟩; have HO := Lib.hid hO; have B6 := Lib.hid (B5.out.trans (hb6.mono B5.out.size)); clear hO hb6))
        go_ret2
        refine ⟨ga, gc, gA, gC, by rw [T3.out, T4.out]; rfl, ?_, B6.out⟩
        rw [T4.out]
        exact (HO.out.sub B5.out.size (Nat.le_refl _)).congr fun r k hr hk => atF_named HR.out HD.out hr hk
      · have T2 := Lib.hid (tt_no hd)
        have T3 := Lib.hid (tt_no (show ¬ NamedOk m m L Z W from fun h => hd h.2.2))
        have T4 := Lib.hid (namedN_no (show ¬ NamedOk m m L Z W from fun h => hd h.2.2))
        have hq : ((m : Int) != m) = false := by simp
        clear hd
        go_enter Try.func37, Try.ntmps37
        go_wp2_with (first
          | (go_at_call 52; refine H1.out.mono ?_; rintro e w0 ⟨rfl, hb0⟩; rw [T1.out])
          | ((with_reducible refine arr_alloc 25 _ (Try.zeroRates _) ?_); intro w1 hA1 hs1 hb1; have S1 := Lib.hid hs1; clear hs1)
          | ((with_reducible refine arr_store 25 _ _ _ _ _ _ (rateF m L Z) ?_ ?_ hA1 Try.sizeRates ?_); exact rfl; exact rfl; intro w2 hA2 hs2 ho2 hb2; clear hA1; have B2 := Lib.hid ((hb0.trans (hb1.mono hb0.size)).trans (hb2.mono hb0.size)); clear hb0 hb1 hb2 hs2 ho2)
          | ((with_reducible refine arr_load 25 _ _ _ _ _ _ _ ?_ hA2 Try.underlying58 Try.sizeRates ?_); exact rfl)
          | ((with_reducible refine arr_load_g 25 _ _ _ _ _ _ _ _ ?_ ?_ hA2 Try.underlying58 Try.sizeRates ?_); exact rfl; exact rfl)
          | (go_at_call 59; refine (size_any m _ _ HK.out).mono ?_; rintro e w3 ⟨rfl, hb3⟩; have hA3 := hA2.below hA2.lt hb3; clear hA2; have hA2 := hA3; clear hA3; have B3 := Lib.hid (B2.out.trans (hb3.mono B2.out.size)); clear hb3)
          | (go_at_call 82; refine (areDifferent_any m m d b W _ (by omega) hm (HB.out.below (Nat.le_refl _) B3.out)).mono ?_; rintro e w4 ⟨rfl, rfl⟩; rw [T2.out]))
        go_ret2
        exact ⟨none, 0, fun _ => none, fun _ => 0, by rw [T3.out, T4.out]; rfl, .inl T4.out, B3.out⟩
    · have T3 := Lib.hid (tt_no (show ¬ NamedOk n m L Z W from fun h => hmn h.2.1))
      have T4 := Lib.hid (namedN_no (show ¬ NamedOk n m L Z W from fun h => hmn h.2.1))
      have hq : ((m : Int) != n) = true := by simp only [bne_iff_ne, ne_eq]; omega
      go_enter Try.func37, Try.ntmps37
      go_wp2_with (first
        | (go_at_call 52; refine H1.out.mono ?_; rintro e w0 ⟨rfl, hb0⟩; rw [T1.out])
        | ((with_reducible refine arr_alloc 25 _ (Try.zeroRates _) ?_); intro w1 hA1 hs1 hb1; have S1 := Lib.hid hs1; clear hs1)
        | ((with_reducible refine arr_store 25 _ _ _ _ _ _ (rateF n L Z) ?_ ?_ hA1 Try.sizeRates ?_); exact rfl; exact rfl; intro w2 hA2 hs2 ho2 hb2; clear hA1; have B2 := Lib.hid ((hb0.trans (hb1.mono hb0.size)).trans (hb2.mono hb0.size)); clear hb0 hb1 hb2 hs2 ho2)
        | ((with_reducible refine arr_load 25 _ _ _ _ _ _ _ ?_ hA2 Try.underlying58 Try.sizeRates ?_); exact rfl)
        | ((with_reducible refine arr_load_g 25 _ _ _ _ _ _ _ _ ?_ ?_ hA2 Try.underlying58 Try.sizeRates ?_); exact rfl; exact rfl)
        | (go_at_call 59; refine (size_any n _ _ HK.out).mono ?_; rintro e w3 ⟨rfl, hb3⟩; have hA3 := hA2.below hA2.lt hb3; clear hA2; have hA2 := hA3; clear hA3; have B3 := Lib.hid (B2.out.trans (hb3.mono B2.out.size)); clear hb3))
      go_ret2
      exact ⟨none, 0, fun _ => none, fun _ => 0, by rw [T3.out, T4.out]; rfl, .inl T4.out, B3.out⟩
  · have T1 := Lib.hid (tt_no hr)
    have T3 := Lib.hid (tt_no (show ¬ NamedOk n m L Z W from fun h => hr h.1))
    have T4 := Lib.hid (namedN_no (show ¬ NamedOk n m L Z W from fun h => hr h.1))
    clear hr
    go_enter Try.func37, Try.ntmps37
    go_wp2_with (first
      | (go_at_call 52; refine H1.out.mono ?_; rintro e w0 ⟨rfl, hb0⟩; rw [T1.out])
      | ((with_reducible refine arr_alloc 25 _ (Try.zeroRates _) ?_); intro w1 hA1 hs1 hb1; have S1 := Lib.hid hs1; clear hs1)
      | ((with_reducible refine arr_store 25 _ _ _ _ _ _ (rateF n L Z) ?_ ?_ hA1 Try.sizeRates ?_); exact rfl; exact rfl; intro w2 hA2 hs2 ho2 hb2; clear hA1; have B2 := Lib.hid ((hb0.trans (hb1.mono hb0.size)).trans (hb2.mono hb0.size)); clear hb0 hb1 hb2 hs2 ho2))
    go_ret2
    exact ⟨none, 0, fun _ => none, fun _ => 0, by rw [T3.out, T4.out]; rfl, .inl T4.out, B2.out⟩
end Go.Proofs.Ytmjbocgoinfamaa
