/- The walk of the law FnFind: it answers true at every code that can be read. -/
import Derived.Test.YtakipaehoeapcaaDrawPriceFind
import Derived.Test.YtakipaehoeapcaaPriceFind
import Derived.Test.YtakipaehoeapcaaPriceHolds
import Derived.Test.YtakipaehoeapcaaSameInts
import Derived.Test.YtakipaehoeapcaaFindHolds
namespace Go.Proofs.Ytakipaehoeapcaa
set_option linter.unusedVariables false
set_option linter.unusedSimpArgs false
open Go.RowKit

set_option maxHeartbeats 3200000 in
theorem fnFind_walk (n c : Nat) (a : Option Addr) (B : Nat → Nat) (w : World) (hc : n ≤ c) (hb : RdB w a n B) (hab : 0 < n → ∀ b o, a = some ⟨b, o, none⟩ → b < w.heap.size) :
    Calls Try.prog 7 #[.slice a n c] w fun e w' => e = .returned (.bool true) ∧ Below w.heap.size w w' := by
  by_cases hfit : n ≤ 1048576
  · have hd : ¬ (1048576 < n) := by omega
    have HD := Lib.hid (drawPriceFind_any n c a B w hfit hc hb hab)
    clear hb hab
    go_enter Try.func7, Try.ntmps7
    go_wp2_with fail
    refine HD.out.mono ?_
    rintro e w1 ⟨ga, N, gc, A, L, C, Z, rfl, ⟨hN1, hN5⟩, hL, hT, hb1⟩
    have HT := Lib.hid hT
    have HL := Lib.hid (show ∀ r, r < N → L r ≤ 1048576 from fun r hr => by have := hL r hr; omega)
    have B1 := Lib.hid hb1
    clear hT hL hb1 HD
    by_cases hf : FindOk N L Z
    · have K1 := Lib.hid (tt_of hf)
      have KN := Lib.hid (findN_yes hf)
      have KH := Lib.hid (tt_of (found_holds hf))
      have KG := Lib.hid (tt_no (show ¬ 0 < gainN N L Z by rw [gainN_yes hf.1, hf.2]; omega))
      have KS := Lib.hid (tt_of (show SameB N N (leastF (foundF Z N) N) (leastF (foundF Z N) N) from ⟨rfl, fun _ _ => rfl⟩))
      clear hf
      go_wp2_with fail
      refine (priceFind_cap N gc ga A L C Z _ (by omega) HL.out HT.out).mono ?_
      rintro e w2 ⟨fa, fc, rfl, hfc, hO2, hb2⟩
      rw [K1.out]
      have B2 := Lib.hid hb2
      rw [KN.out] at hO2 hfc ⊢
      have R2 := Lib.hid hO2.rd
      clear hO2
      clear hb2
      go_wp2_with fail
      refine (specPriceFind_any N gc ga A L C Z _ (by omega) HL.out (HT.out.below (Nat.le_refl _) B2.out)).mono ?_
      rintro e w3 ⟨sa, sc, rfl, hO3, hb3⟩
      rw [K1.out]
      have B3 := Lib.hid (below_chain B2.out hb3)
      rw [KN.out] at hO3 ⊢
      have S3 := Lib.hid hO3.rd
      have R3 := Lib.hid (R2.out.below (Nat.le_refl _) hb3)
      clear hO3
      clear hb3
      go_wp2_with fail
      refine (sameInts_any N N fc sc fa sa _ _ _ (by omega) (by omega) R3.out S3.out).mono ?_
      rintro e w4 ⟨rfl, q, rfl⟩
      rw [KS.out]
      have B4 := Lib.hid (below_drewN B3.out q)
      go_wp2_with fail
      refine (priceHolds_any N gc N fc ga fa A L C Z _ _ (by omega) HL.out (HT.out.below (Nat.le_refl _) B4.out) (by omega) hfc (R3.out.drewN q)).mono ?_
      rintro e w5 ⟨rfl, hb5⟩
      rw [KH.out]
      have B5 := Lib.hid (below_chain B4.out hb5)
      clear hb5
      go_wp2_with (go_at_call 16; refine (rateGains_any N gc ga A L C Z _ (by omega) HL.out (HT.out.below (Nat.le_refl _) B5.out)).mono ?_; rintro e w6 ⟨rfl, hb6⟩; rw [KG.out]; have B6 := Lib.hid (below_chain B5.out hb6); clear hb6)
      go_ret
      exact ⟨by first | rfl | simp, below_chain B1.out B6.out⟩
    · have K1 := Lib.hid (tt_no hf)
      have KN := Lib.hid (findN_no hf)
      have KS := Lib.hid (tt_of (show SameB 0 0 (leastF (foundF Z N) N) (leastF (foundF Z N) N) from ⟨rfl, fun _ _ => rfl⟩))
      clear hf
      go_wp2_with fail
      refine (priceFind_cap N gc ga A L C Z _ (by omega) HL.out HT.out).mono ?_
      rintro e w2 ⟨fa, fc, rfl, hfc, hO2, hb2⟩
      rw [K1.out]
      have B2 := Lib.hid hb2
      rw [KN.out] at hO2 hfc ⊢
      have R2 := Lib.hid hO2.rd
      clear hO2
      clear hb2
      go_wp2_with fail
      refine (specPriceFind_any N gc ga A L C Z _ (by omega) HL.out (HT.out.below (Nat.le_refl _) B2.out)).mono ?_
      rintro e w3 ⟨sa, sc, rfl, hO3, hb3⟩
      rw [K1.out]
      have B3 := Lib.hid (below_chain B2.out hb3)
      rw [KN.out] at hO3 ⊢
      have S3 := Lib.hid hO3.rd
      have R3 := Lib.hid (R2.out.below (Nat.le_refl _) hb3)
      clear hO3
      clear hb3
      go_wp2_with fail
      refine (sameInts_any 0 0 fc sc fa sa _ _ _ (by omega) (by omega) R3.out S3.out).mono ?_
      rintro e w4 ⟨rfl, q, rfl⟩
      rw [KS.out]
      have R4 := Lib.hid (R3.out.drewN q)
      have S4 := Lib.hid (S3.out.drewN q)
      go_wp2_with fail
      refine (sameInts_any 0 0 fc sc fa sa _ _ _ (by omega) (by omega) R4.out S4.out).mono ?_
      rintro e w5 ⟨rfl, q5, rfl⟩
      rw [KS.out]
      go_wp2
      go_ret
      exact ⟨by first | rfl | simp, below_chain B1.out (below_chain B3.out (below_drewN (Below.refl _ _) (q + q5)))⟩
  · have hd : 1048576 < n := by omega
    clear hb hab
    go_enter Try.func7, Try.ntmps7
    go_wp2_with fail
    go_ret
    exact ⟨rfl, Below.refl _ _⟩
end Go.Proofs.Ytakipaehoeapcaa
