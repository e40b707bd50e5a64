/- The program's RateStep. -/
import Derived.Test.YtakipaehoeapcaaRateFive
import Derived.Test.YtakipaehoeapcaaReadRates
import Derived.Test.YtakipaehoeapcaaHas
import Derived.Test.YtakipaehoeapcaaChange
namespace Go.Proofs.Ytakipaehoeapcaa
set_option linter.unusedVariables false
open Go.RowKit

set_option maxHeartbeats 1600000 in
theorem rateStep_any (n c : Nat) (a : Option Addr) (A : Nat → Option Addr) (L C : Nat → Nat) (Z : Nat → Nat → Int) (i k : Int) (w : World) (hn0 : n ≤ 1048576) (hL0 : ∀ r, r < n → L r ≤ 1048576) (ha0 : Tab w a n A L C Z) (hx1 : I64 i) (hx2 : I64 k) :
    Calls Try.prog 73 #[.slice a n c, .int .i64 i, .int .i64 k] w fun e w' => e = .returned (.tuple #[.int .i64 (stepAns n L Z i k), .bool (tt (TwoOk n L Z i k))]) ∧ Below w.heap.size w w' := by
  have H1 := Lib.hid (readRates_any n c a A L C Z w hn0 hL0 ha0)
  clear hL0 ha0
  by_cases hr : IsRates n L Z
  · have T1 := Lib.hid (tt_of hr)
    have HK := Lib.hid (Kept.of_rates hr)
    have HR := Lib.hid hr
    have hn5 := hr.1.2
    have hn2 := hr.1.1
    clear hr
    by_cases h1 : InR i 0 ((n : Int) - 1)
    · have T2 := Lib.hid (tt_of h1)
      by_cases h2 : InR k 0 ((n : Int) - 1)
      · have T3 := Lib.hid (tt_of h2)
        have hok : TwoOk n L Z i k := ⟨HR.out, h1, h2⟩
        have T4 := Lib.hid (tt_of hok)
        have T5 := Lib.hid (stepAns_yes hok)
        obtain ⟨x, hx⟩ := Int.eq_ofNat_of_zero_le h1.1
        obtain ⟨y, hy⟩ := Int.eq_ofNat_of_zero_le h2.1
        subst hx hy
        have hxn : x < n := by have := h1.2; omega
        have hyn : y < n := by have := h2.2; omega
        clear h1 h2 hok hx1 hx2
        have t1 : True := trivial
        have t2 : True := trivial
        go_enter Try.func73, Try.ntmps73
        go_wp2_with (first
          | (go_at_call 50; refine H1.out.mono ?_; rintro e w0 ⟨rfl, hb0⟩; rw [T1.out])
          | ((with_reducible refine arr_alloc 25 _ (Try.zeroRates _) ?_); intro w1 hA1 hs1 hb1; have S1 := Lib.hid hs1; clear hs1)
          | ((with_reducible refine arr_store 25 _ _ _ _ _ _ (rateF n L Z) ?_ ?_ hA1 Try.sizeRates ?_); exact rfl; exact rfl; intro w2 hA2 hs2 ho2 hb2; clear hA1; have B2 := Lib.hid ((hb0.trans (hb1.mono hb0.size)).trans (hb2.mono hb0.size)); clear hb0 hb1 hb2 hs2 ho2)
          | ((with_reducible refine arr_load_g 25 _ _ _ _ _ _ _ _ ?_ ?_ hA2 Try.underlying49 Try.sizeRates ?_); exact rfl; exact rfl)
          | (have _t := t1; go_at_call 80; refine (has_any n _ _ _ HK.out).mono ?_; clear t1; rintro e w3 ⟨rfl, hb3⟩; rw [T2.out]; have hA3 := hA2.below hA2.lt hb3; clear hA2; have hA2 := hA3; clear hA3; have B3 := Lib.hid (B2.out.trans (hb3.mono B2.out.size)); clear hb3)
          | (have _t := t2; go_at_call 80; refine (has_any n _ _ _ HK.out).mono ?_; clear t2; rintro e w4 ⟨rfl, hb4⟩; rw [T3.out]; have hA4 := hA2.below hA2.lt hb4; clear hA2; have hA2 := hA4; clear hA4; have B4 := Lib.hid (B3.out.trans (hb4.mono B3.out.size)); clear hb4)
          | ((with_reducible refine arr_alloc 5 _ (Try.zeroFive _) ?_); intro w5 hA5 hs5 hb5; have S5 := Lib.hid hs5; clear hs5; have C5 := hA5.cell (show x < 5 by omega); have F5 := hA5.frozen x)
          | ((with_reducible refine arr_load 25 _ _ _ 49 _ w0.heap.size (rateF n L Z) ?_ ?_ Try.underlying49 Try.sizeRates ?_); exact rfl; exact (hA2.below hA2.lt hb5).setOther (Nat.ne_of_lt hA2.lt) _)
          | (go_at_call 81; refine (size_any n _ _ HK.out).mono ?_; rintro e w6 ⟨rfl, hb6⟩))
        have hw04 := hA2.lt
        have hT := ((hA2.below hA2.lt hb5).setOther (Nat.ne_of_lt hA2.lt) (v := .int .i64 1) (a := ⟨w4.heap.size, x, none⟩)).below (by rw [show (w5.setCell ⟨w4.heap.size, x, none⟩ (.int .i64 1)).heap.size = w5.heap.size from by simp [World.setCell]]; rw [S5.out]; omega) hb6
        have hV := ((hA5.set x 1).below (by rw [show (w5.setCell ⟨w4.heap.size, x, none⟩ (.int .i64 1)).heap.size = w5.heap.size from by simp [World.setCell]]; rw [S5.out]; omega) hb6).congr (G := stepV (atF (rateF n L Z)) 5 x 0) (fun y _ => rfl)
        have hB := (B4.out.trans ((hb5.mono (Nat.le_refl _)).mono B4.out.size)).trans ((Below.setCell (Below.refl w4.heap.size w5) (p := ⟨w4.heap.size, x, none⟩) (Nat.le_refl _) (.int .i64 1)).mono B4.out.size |>.trans (hb6.mono (by have h1 := B4.out.size; have h2 := hb5.size; rw [show (w5.setCell ⟨w4.heap.size, x, none⟩ (.int .i64 1)).heap.size = w5.heap.size from by simp [World.setCell]]; omega)))
        have R1 := Lib.hid hT
        have R2 := Lib.hid hV
        have R3 := Lib.hid hB
        have hw4 := B4.out.size
        clear hA2 hA5 hb5 hb6 hT hV hB S1 B2 B3 B4 S5 C5 F5
        go_loopw [35] (fun s wr => ∃ q : Nat, q + 1 ≤ n ∧ s = .int .i64 q ∧ ArrAt wr w0.heap.size 49 25 (rateF n L Z) ∧ ArrAt wr w4.heap.size 47 5 (stepV (atF (rateF n L Z)) 5 x q) ∧ Below w.heap.size w wr) (fun s _ => n - (intOf s).toNat)
        case atStart => exact ⟨0, by omega, rfl, R1.out, R2.out, R3.out⟩
        case round =>
          obtain ⟨q, hq, rfl, hT, hV, hB⟩ := hrel
          clear R1 R2 R3
          by_cases hlt : q + 1 < n
          · have hbd := Lib.hid (fun z (hz : z < 5) => stepV_bound (T := atF (rateF n L Z)) (n := 5) (i := x) (fun x y hx hy => rate_five HR.out x y hx hy) q z (by omega) hz)
            have hd : decide ((q : Int) < (n : Int) - 1) = true := by simp; omega
            go_wp2_with (first
              | ((with_reducible refine arr_load 25 _ _ _ _ _ _ _ ?_ hT Try.underlying49 Try.sizeRates ?_); exact rfl)
              | ((with_reducible refine arr_load 5 _ _ _ _ _ _ _ ?_ hV Try.underlying47 Try.sizeFive ?_); exact rfl)
              | (go_at_call 95; refine (change_any _ _ _ (rate_five HR.out) hbd.out).mono ?_; rintro e w7 ⟨rfl, hb7⟩; have hV7 := hV.below hV.lt hb7; have hT7 := hT.below hT.lt hb7; have hB7 := hB.trans (hb7.mono hB.size); clear hV hT hB hb7)
              | ((with_reducible refine arr_store 5 _ _ _ _ _ _ (stepV (atF (rateF n L Z)) 5 x (q + 1)) ?_ ?_ hV7 Try.sizeFive ?_); exact rfl; exact rfl; intro w8 hV8 hs8 ho8 hb8; have hT8 := hT7.of_block (ho8 w0.heap.size (Nat.ne_of_lt hw04)); have hB8 := hB7.trans (hb8.mono hw4); clear hV7 hT7 hB7 hs8 ho8 hb8; have R1 := Lib.hid hT8; have R2 := Lib.hid hV8; have R3 := Lib.hid hB8; clear hT8 hV8 hB8))
            go_roundw
            case rel => exact ⟨q + 1, by omega, by go_num, R1.out, R2.out, R3.out⟩
            case measure => simp [intOf]; omega
          · have hqn : q = n - 1 := by omega
            have hd : decide ((q : Int) < (n : Int) - 1) = false := by simp; omega
            have hfive := (stepV_five (T := atF (rateF n L Z)) (U := Z) (n := n) (i := x) hn5 hxn (fun x y hx hy => atF_rate HR.out hx hy) (rate_none HR.out) q y (by omega)).1 hyn
            have hc := hV.cell (show y < 5 by omega)
            rw [hfive, hqn] at hc
            have R3 := Lib.hid hB
            clear hT hV hB hqn hfive
            go_wp2
            go_ret2
            exact ⟨by rw [T4.out, T5.out]; rfl, R3.out⟩
      · have T3 := Lib.hid (tt_no h2)
        have T4 := Lib.hid (tt_no (show ¬ TwoOk n L Z i k from fun h => h2 h.2.2))
        have T5 := Lib.hid (stepAns_no (show ¬ TwoOk n L Z i k from fun h => h2 h.2.2))
        clear h1 h2 hx1 hx2
        have t1 : True := trivial
        have t2 : True := trivial
        go_enter Try.func73, Try.ntmps73
        go_wp2_with (first
          | (go_at_call 50; refine H1.out.mono ?_; rintro e w0 ⟨rfl, hb0⟩; rw [T1.out])
          | ((with_reducible refine arr_alloc 25 _ (Try.zeroRates _) ?_); intro w1 hA1 hs1 hb1; have S1 := Lib.hid hs1; clear hs1)
          | ((with_reducible refine arr_store 25 _ _ _ _ _ _ (rateF n L Z) ?_ ?_ hA1 Try.sizeRates ?_); exact rfl; exact rfl; intro w2 hA2 hs2 ho2 hb2; clear hA1; have B2 := Lib.hid ((hb0.trans (hb1.mono hb0.size)).trans (hb2.mono hb0.size)); clear hb0 hb1 hb2 hs2 ho2)
          | ((with_reducible refine arr_load_g 25 _ _ _ _ _ _ _ _ ?_ ?_ hA2 Try.underlying49 Try.sizeRates ?_); exact rfl; exact rfl)
          | (have _t := t1; go_at_call 80; refine (has_any n _ _ _ HK.out).mono ?_; clear t1; rintro e w3 ⟨rfl, hb3⟩; rw [T2.out]; have hA3 := hA2.below hA2.lt hb3; clear hA2; have hA2 := hA3; clear hA3; have B3 := Lib.hid (B2.out.trans (hb3.mono B2.out.size)); clear hb3)
          | (have _t := t2; go_at_call 80; refine (has_any n _ _ _ HK.out).mono ?_; clear t2; rintro e w4 ⟨rfl, hb4⟩; rw [T3.out]; have hA4 := hA2.below hA2.lt hb4; clear hA2; have hA2 := hA4; clear hA4; have B4 := Lib.hid (B3.out.trans (hb4.mono B3.out.size)); clear hb4))
        go_ret2
        exact ⟨by rw [T4.out, T5.out]; rfl, B4.out⟩
    · have T2 := Lib.hid (tt_no h1)
      have T4 := Lib.hid (tt_no (show ¬ TwoOk n L Z i k from fun h => h1 h.2.1))
      have T5 := Lib.hid (stepAns_no (show ¬ TwoOk n L Z i k from fun h => h1 h.2.1))
      clear h1 hx1 hx2
      have t1 : True := trivial
      go_enter Try.func73, Try.ntmps73
      go_wp2_with (first
        | (go_at_call 50; refine H1.out.mono ?_; rintro e w0 ⟨rfl, hb0⟩; rw [T1.out])
        | ((with_reducible refine arr_alloc 25 _ (Try.zeroRates _) ?_); intro w1 hA1 hs1 hb1; have S1 := Lib.hid hs1; clear hs1)
        | ((with_reducible refine arr_store 25 _ _ _ _ _ _ (rateF n L Z) ?_ ?_ hA1 Try.sizeRates ?_); exact rfl; exact rfl; intro w2 hA2 hs2 ho2 hb2; clear hA1; have B2 := Lib.hid ((hb0.trans (hb1.mono hb0.size)).trans (hb2.mono hb0.size)); clear hb0 hb1 hb2 hs2 ho2)
        | ((with_reducible refine arr_load_g 25 _ _ _ _ _ _ _ _ ?_ ?_ hA2 Try.underlying49 Try.sizeRates ?_); exact rfl; exact rfl)
        | (have _t := t1; go_at_call 80; refine (has_any n _ _ _ HK.out).mono ?_; clear t1; rintro e w3 ⟨rfl, hb3⟩; rw [T2.out]; have hA3 := hA2.below hA2.lt hb3; clear hA2; have hA2 := hA3; clear hA3; have B3 := Lib.hid (B2.out.trans (hb3.mono B2.out.size)); clear hb3))
      go_ret2
      exact ⟨by rw [T4.out, T5.out]; rfl, B3.out⟩
  · have T1 := Lib.hid (tt_no hr)
    have T4 := Lib.hid (tt_no (show ¬ TwoOk n L Z i k from fun h => hr h.1))
    have T5 := Lib.hid (stepAns_no (show ¬ TwoOk n L Z i k from fun h => hr h.1))
    clear hr hx1 hx2
    go_enter Try.func73, Try.ntmps73
    go_wp2_with (first
      | (go_at_call 50; refine H1.out.mono ?_; rintro e w0 ⟨rfl, hb0⟩; rw [T1.out])
      | ((with_reducible refine arr_alloc 25 _ (Try.zeroRates _) ?_); intro w1 hA1 hs1 hb1; have S1 := Lib.hid hs1; clear hs1)
      | ((with_reducible refine arr_store 25 _ _ _ _ _ _ (rateF n L Z) ?_ ?_ hA1 Try.sizeRates ?_); exact rfl; exact rfl; intro w2 hA2 hs2 ho2 hb2; clear hA1; have B2 := Lib.hid ((hb0.trans (hb1.mono hb0.size)).trans (hb2.mono hb0.size)); clear hb0 hb1 hb2 hs2 ho2))
    go_ret2
    exact ⟨by rw [T4.out, T5.out]; rfl, B2.out⟩
end Go.Proofs.Ytakipaehoeapcaa
