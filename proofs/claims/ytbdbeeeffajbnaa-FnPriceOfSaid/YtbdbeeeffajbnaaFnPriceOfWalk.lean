/- The walk of the law FnPriceOf: it answers true at every code that can be read. -/
import Derived.Test.YtbdbeeeffajbnaaDrawFitting
import Derived.Test.YtbdbeeeffajbnaaPriceOf
import Derived.Test.YtbdbeeeffajbnaaSpecPriceOf
import Derived.Test.YtbdbeeeffajbnaaPriceTable
import Derived.Test.YtbdbeeeffajbnaaPriceFits
import Derived.Test.YtbdbeeeffajbnaaSameRows
namespace Go.Proofs.Ytbdbeeeffajbnaa
set_option linter.unusedVariables false
open Go.RowKit

section
variable {n : Nat} {L : Nat → Nat} {Z : Nat → Nat → Int}
theorem of_fits (h : FairOk n L Z) : FitsOk n L Z n (leastF (colF Z) n) :=
  ⟨⟨⟨h.1, col_prices h.1⟩, rfl⟩, (fitF_iff h.1 (col_prices h.1)).1 ((fit_col h.1).2 h.2)⟩
theorem of_quo (h : FairOk n L Z) {i k : Nat} (hi : i < n) (hk : k < n) : 12 * leastF (colF Z) n i % leastF (colF Z) n k = 0 ∧ 12 * leastF (colF Z) n i / leastF (colF Z) n k = Z i k :=
  (quo_iff ((col_prices h.1).2 k hk).1).1 ((of_fits h).2 i hi k hk)
theorem of_table (h : FairOk n L Z) : TableOk n (leastF (colF Z) n) := ⟨col_prices h.1, fun i hi k hk => (of_quo h hi hk).1⟩
theorem of_same (h : FairOk n L Z) : SameT n n (fun _ => n) L (quoP (leastF (colF Z) n)) Z :=
  ⟨rfl, fun r hr => ⟨((h.1.2 r hr).1).symm, fun s hs => (of_quo h hr (show s < n from hs)).2⟩⟩
end

set_option maxHeartbeats 3200000 in
theorem fnPriceOf_walk (n c : Nat) (a : Option Addr) (B : Nat → Nat) (w : World) (hc : n ≤ c) (hb : RdB w a n B) (hab : 0 < n → ∀ b o, a = some ⟨b, o, none⟩ → b < w.heap.size) :
    Calls Try.prog 7 #[.slice a n c] w fun e w' => e = .returned (.bool true) ∧ Below w.heap.size w w' := by
  by_cases hfit : n ≤ 1048576
  · have hd : ¬ (1048576 < n) := by omega
    have HD := Lib.hid (drawPriceOf_any n c a B w hfit hc hb hab)
    clear hb hab
    go_enter Try.func7, Try.ntmps7
    go_wp2_with fail
    refine HD.out.mono ?_
    rintro e w1 ⟨ga, N, gc, A, L, C, Z, rfl, ⟨hN1, hN5⟩, hL, hT, hb1⟩
    have HT := Lib.hid hT
    have HL := Lib.hid (show ∀ r, r < N → L r ≤ 1048576 from fun r hr => by have := hL r hr; omega)
    have HM := Lib.hid (show ∀ r, r < N → L r ≤ 9223372036854775807 from fun r hr => by have := hL r hr; omega)
    have B1 := Lib.hid hb1
    clear hT hL hb1 HD
    go_wp2_with fail
    refine (priceOf_cap N gc ga A L C Z _ (by omega) HL.out HT.out).mono ?_
    rintro e w2 ⟨pa, pc, rfl, hcap, hO2, hb2⟩
    have R2 := Lib.hid hO2.rd
    have B2 := Lib.hid hb2
    clear hO2 hb2
    go_wp2_with fail
    refine (specPriceOf_any N gc ga A L C Z _ (by omega) HL.out (HT.out.below (Nat.le_refl _) B2.out)).mono ?_
    rintro e w3 ⟨sa, sc, rfl, hO3, hb3⟩
    have R3 := Lib.hid hO3.rd
    have R2' := Lib.hid (R2.out.below (Nat.le_refl _) hb3)
    have B3 := Lib.hid (below_chain B2.out hb3)
    have hN := of_small N L Z
    have SM := Lib.hid (tt_of (show SameB (ofN N L Z) (ofN N L Z) (leastF (colF Z) N) (leastF (colF Z) N) from ⟨rfl, fun _ _ => rfl⟩))
    clear hO3 hb3
    by_cases hok : FairOk N L Z
    · have K1 := Lib.hid (tt_of hok)
      have K2 := Lib.hid (ofN_yes hok)
      have KF := Lib.hid (tt_of (of_fits hok))
      have KT := Lib.hid (tt_of (of_table hok))
      have KN := Lib.hid (tableN_yes (of_table hok))
      have KS := Lib.hid (tt_of (of_same hok))
      rw [K2.out] at R2' R3 SM hcap ⊢
      rw [K1.out]
      clear hok hN
      go_wp2_with fail
      refine (sameInts_any N N pc sc _ _ _ _ _ (by omega) (by omega) R2'.out R3.out).mono ?_
      rintro e w4 ⟨rfl, q4, rfl⟩
      rw [SM.out]
      have B4 := Lib.hid (below_chain B3.out (below_drewN (Below.refl _ _) q4))
      have R4 := Lib.hid (R2'.out.drewN q4)
      go_wp2_with fail
      refine (priceTable_any N pc _ _ _ (by omega) hcap R4.out).mono ?_
      rintro e w5 ⟨ta, tc, tA, tC, rfl, hT5, hb5⟩
      rw [KN.out] at hT5 ⊢
      rw [KT.out]
      have T5 := Lib.hid hT5.tab
      have R5 := Lib.hid (R4.out.below (Nat.le_refl _) hb5)
      have B5 := Lib.hid (below_chain B4.out hb5)
      clear hT5 hb5
      go_wp2_with fail
      refine (sameRows_any N N tc gc ta ga _ _ _ _ _ _ _ _ _ (by omega) (by omega) (fun _ _ => by show N ≤ _; omega) HM.out T5.out (HT.out.below (Nat.le_refl _) B5.out)).mono ?_
      rintro e w6 ⟨rfl, q6, rfl⟩
      rw [KS.out]
      have B6 := Lib.hid (below_chain B5.out (below_drewN (Below.refl _ _) q6))
      have R6 := Lib.hid (R5.out.drewN q6)
      go_wp2_with fail
      refine (priceFits_any N gc N pc ga _ _ _ _ _ _ _ (by omega) HL.out (HT.out.below (Nat.le_refl _) B6.out) (by omega) hcap R6.out).mono ?_
      rintro e w7 ⟨rfl, hb7⟩
      rw [KF.out]
      have B7 := Lib.hid (below_chain B6.out hb7)
      clear hb7
      go_wp2
      go_ret
      exact ⟨rfl, below_chain B1.out B7.out⟩
    · have K1 := Lib.hid (tt_no hok)
      rw [K1.out]
      clear hok
      go_wp2_with fail
      refine (sameInts_any (ofN N L Z) (ofN N L Z) pc sc _ _ _ _ _ (by omega) (by omega) R2'.out R3.out).mono ?_
      rintro e w4 ⟨rfl, q4, rfl⟩
      rw [SM.out]
      go_wp2_with fail
      refine (sameInts_any (ofN N L Z) (ofN N L Z) pc sc _ _ _ _ _ (by omega) (by omega) (R2'.out.drewN q4) (R3.out.drewN q4)).mono ?_
      rintro e w5 ⟨rfl, q5, rfl⟩
      rw [SM.out]
      go_wp2
      go_ret
      exact ⟨rfl, below_chain B1.out (below_chain B3.out (below_drewN (Below.refl _ _) (q4 + q5)))⟩
  · have hd : 1048576 < n := by omega
    clear hb hab
    go_enter Try.func7, Try.ntmps7
    go_wp2_with fail
    go_ret
    exact ⟨rfl, Below.refl _ _⟩
end Go.Proofs.Ytbdbeeeffajbnaa
