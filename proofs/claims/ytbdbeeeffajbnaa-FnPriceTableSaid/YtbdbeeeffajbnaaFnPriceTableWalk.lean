/- The walk of the law FnPriceTable: it answers true at every code that can be read. -/
import Derived.Test.YtbdbeeeffajbnaaDrawRow
import Derived.Test.YtbdbeeeffajbnaaSameRows
import Derived.Test.YtbdbeeeffajbnaaSpecPriceTable
import Derived.Test.YtbdbeeeffajbnaaPriceTable
import Derived.Test.YtbdbeeeffajbnaaPriceFits
import Derived.Test.YtbdbeeeffajbnaaRateFair
namespace Go.Proofs.Ytbdbeeeffajbnaa
set_option linter.unusedVariables false
open Go.RowKit

theorem quo_rates {m : Nat} {W : Nat → Int} (h : TableOk m W) : IsRates m (fun _ => m) (quoP W) := by
  refine ⟨h.1.1, fun i hi => ⟨rfl, fun k hk => ⟨quoP_range h hi hk, fun e => ?_⟩⟩⟩
  subst e
  have := (h.1.2 i hi).1
  exact Int.mul_ediv_cancel _ (by omega)
theorem quo_mul {m : Nat} {W : Nat → Int} (h : TableOk m W) {i k : Nat} (hi : i < m) (hk : k < m) : quoP W i k * W k = 12 * W i :=
  (quo_iff (h.1.2 k hk).1).2 ⟨h.2 i hi k hk, rfl⟩
theorem quo_fits {m : Nat} {W : Nat → Int} (h : TableOk m W) : FitsOk m (fun _ => m) (quoP W) m W :=
  ⟨⟨⟨quo_rates h, h.1⟩, rfl⟩, fun i hi k hk => quo_mul h hi hk⟩
theorem quo_fair {m : Nat} {W : Nat → Int} (h : TableOk m W) : FairOk m (fun _ => m) (quoP W) := by
  refine ⟨quo_rates h, fun i hi k hk => ?_⟩
  have h0 : 0 < m := by omega
  have h1 := quo_mul h hi h0
  have h2 := quo_mul h h0 hk
  have h3 := quo_mul h hi hk
  have hw := (h.1.2 k hk).1
  refine Int.eq_of_mul_eq_mul_right (a := W k) (by omega) ?_
  calc quoP W i 0 * quoP W 0 k * W k = quoP W i 0 * (quoP W 0 k * W k) := by ac_rfl
    _ = quoP W i 0 * (12 * W 0) := by rw [h2]
    _ = 12 * (quoP W i 0 * W 0) := by ac_rfl
    _ = 12 * (quoP W i k * W k) := by rw [h1, h3]
    _ = 12 * quoP W i k * W k := by ac_rfl

set_option maxHeartbeats 3200000 in
theorem fnPriceTable_walk (n c : Nat) (a : Option Addr) (B : Nat → Nat) (w : World) (hc : n ≤ c) (hb : RdB w a n B) (hab : 0 < n → ∀ b o, a = some ⟨b, o, none⟩ → b < w.heap.size) :
    Calls Try.prog 9 #[.slice a n c] w fun e w' => e = .returned (.bool true) ∧ Below w.heap.size w w' := by
  by_cases hfit : n ≤ 1048576
  · have hd : ¬ (1048576 < n) := by omega
    have HD := Lib.hid (drawPriceTable_any n c a B w hfit hc hb hab)
    clear hb hab
    go_enter Try.func9, Try.ntmps9
    go_wp2_with fail
    refine HD.out.mono ?_
    rintro e w1 ⟨gp, m, cap, X, rfl, ⟨hm2, hm5, hmc⟩, hX, hb1⟩
    have HX := Lib.hid hX
    have B1 := Lib.hid hb1
    clear hX hb1 HD
    go_wp2_with fail
    refine (priceTable_any m cap _ X _ (by omega) hmc HX.out).mono ?_
    rintro e w2 ⟨ga, gc, gA, gC, rfl, hT2, hb2⟩
    have T2 := Lib.hid hT2.tab
    have B2 := Lib.hid hb2
    clear hT2 hb2
    go_wp2_with fail
    refine (specPriceTable_any m cap _ X _ (by omega) (HX.out.below (Nat.le_refl _) B2.out)).mono ?_
    rintro e w3 ⟨sa, sc, sA, sC, rfl, hT3, hb3⟩
    have T3 := Lib.hid hT3.tab
    have T2' := Lib.hid (T2.out.below (Nat.le_refl _) hb3)
    have B3 := Lib.hid (below_chain B2.out hb3)
    have hN := tableN_le m X
    have SM := Lib.hid (tt_of (show SameT (tableN m X) (tableN m X) (fun _ => m) (fun _ => m) (quoP X) (quoP X) from ⟨rfl, fun _ _ => ⟨rfl, fun _ _ => rfl⟩⟩))
    clear hT3 hb3
    by_cases hok : TableOk m X
    · have K1 := Lib.hid (tt_of hok)
      have K2 := Lib.hid (tableN_yes hok)
      have KF := Lib.hid (tt_of (quo_fits hok))
      have KR := Lib.hid (tt_of (quo_fair hok))
      rw [K2.out] at T3 T2' SM ⊢
      rw [K1.out]
      clear hok hN
      go_wp2_with fail
      refine (sameRows_any m m gc sc _ _ _ _ _ _ _ _ _ _ _ (by omega) (by omega) (fun _ _ => by show m ≤ _; omega) (fun _ _ => by show m ≤ _; omega) T2'.out T3.out).mono ?_
      rintro e w4 ⟨rfl, q4, rfl⟩
      rw [SM.out]
      go_wp2_with fail
      refine (priceFits_any m gc m cap _ _ _ _ _ _ _ _ (by omega) (fun _ _ => by show m ≤ _; omega) (T2'.out.drewN q4) (by omega) hmc ((HX.out.below (Nat.le_refl _) B3.out).drewN q4)).mono ?_
      rintro e w5 ⟨rfl, hb5⟩
      rw [KF.out]
      have B5 := Lib.hid hb5
      clear hb5
      go_wp2_with fail
      refine (rateFair_any m gc _ _ _ _ _ _ (by omega) (fun _ _ => by show m ≤ _; omega) ((T2'.out.drewN q4).below (Nat.le_refl _) B5.out)).mono ?_
      rintro e w6 ⟨rfl, hb6⟩
      rw [KR.out]
      have B6 := Lib.hid hb6
      clear hb6
      go_wp2
      go_ret
      exact ⟨rfl, below_chain B1.out (below_chain (below_chain (below_chain B3.out (below_drewN (Below.refl _ _) q4)) B5.out) B6.out)⟩
    · have K1 := Lib.hid (tt_no hok)
      rw [K1.out]
      clear hok
      go_wp2_with fail
      refine (sameRows_any (tableN m X) (tableN m X) gc sc _ _ _ _ _ _ _ _ _ _ _ (by omega) (by omega) (fun _ _ => by show m ≤ _; omega) (fun _ _ => by show m ≤ _; omega) T2'.out T3.out).mono ?_
      rintro e w4 ⟨rfl, q4, rfl⟩
      rw [SM.out]
      go_wp2_with fail
      refine (sameRows_any (tableN m X) (tableN m X) gc sc _ _ _ _ _ _ _ _ _ _ _ (by omega) (by omega) (fun _ _ => by show m ≤ _; omega) (fun _ _ => by show m ≤ _; omega) (T2'.out.drewN q4) (T3.out.drewN q4)).mono ?_
      rintro e w5 ⟨rfl, q5, rfl⟩
      rw [SM.out]
      go_wp2
      go_ret
      exact ⟨rfl, below_chain B1.out (below_chain B3.out (below_drewN (Below.refl _ _) (q4 + q5)))⟩
  · have hd : 1048576 < n := by omega
    clear hb hab
    go_enter Try.func9, Try.ntmps9
    go_wp2_with fail
    go_ret
    exact ⟨rfl, Below.refl _ _⟩
end Go.Proofs.Ytbdbeeeffajbnaa
