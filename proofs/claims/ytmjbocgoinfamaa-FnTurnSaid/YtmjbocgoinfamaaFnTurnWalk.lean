/- The walk of the law FnTurn: it answers true at every code that can be read. -/
import Derived.Test.YtmjbocgoinfamaaDrawRateTurn
import Derived.Test.YtmjbocgoinfamaaSpecRateTurn
import Derived.Test.YtmjbocgoinfamaaRateTurn
import Derived.Test.YtmjbocgoinfamaaSameRows
import Derived.Test.YtmjbocgoinfamaaRateBest
import Derived.Test.YtmjbocgoinfamaaBestBack
namespace Go.Proofs.Ytmjbocgoinfamaa
set_option linter.unusedVariables false
set_option linter.unusedSimpArgs false
open Go.RowKit

theorem rates_same {n : Nat} {L : Nat → Nat} {Z : Nat → Nat → Int} (h : IsRates n L Z) : SameT n n (fun _ => n) L Z Z :=
  ⟨rfl, fun r hr => ⟨((h.2 r hr).1).symm, fun _ _ => rfl⟩⟩
theorem same_own {n : Nat} {L : Nat → Nat} {Z : Nat → Nat → Int} : SameT n n L L Z Z := ⟨rfl, fun r hr => ⟨rfl, fun _ _ => rfl⟩⟩

set_option maxHeartbeats 3200000 in
theorem fnTurn_walk (n c : Nat) (a : Option Addr) (B : Nat → Nat) (w : World) (hc : n ≤ c) (hb : RdB w a n B) (hab : 0 < n → ∀ b o, a = some ⟨b, o, none⟩ → b < w.heap.size) :
    Calls Try.prog 8 #[.slice a n c] w fun e w' => e = .returned (.bool true) ∧ Below w.heap.size w w' := by
  by_cases hfit : n ≤ 1048576
  · have hd : ¬ (1048576 < n) := by omega
    have HD := Lib.hid (drawRateTurn_any n c a B w hfit hc hb hab)
    clear hb hab
    go_enter Try.func8, Try.ntmps8
    go_wp2_with fail
    refine HD.out.mono ?_
    rintro e w1 ⟨ga, N, gc, A, L, C, Z, rfl, ⟨hN1, hN5⟩, hL, hT, hb1⟩
    have HT := Lib.hid hT
    have HL := Lib.hid (show ∀ r, r < N → L r ≤ 1048576 from fun r hr => by have := hL r hr; omega)
    have HM := Lib.hid (show ∀ r, r < N → L r ≤ 9223372036854775807 from fun r hr => by have := hL r hr; omega)
    have B1 := Lib.hid hb1
    clear hT hL hb1 HD
    by_cases hr : IsRates N L Z
    · have KR := Lib.hid (tt_of hr)
      have KN := Lib.hid (turnN_yes hr)
      have KS := Lib.hid (tt_of (turn_rates hr))
      have KM := Lib.hid (turnN_yes (turn_rates hr))
      have KE := Lib.hid (tt_of (same_own (n := N) (L := fun _ => N) (Z := turnX Z)))
      have KF := Lib.hid (tt_of (rates_same hr))
      have h2 := hr.1.1
      have hk : TwoOk N L Z 1 0 := ⟨hr, ⟨by omega, by omega⟩, ⟨by omega, by omega⟩⟩
      have hk' : TwoOk N (fun _ => N) (turnX Z) 0 1 := ⟨turn_rates hr, ⟨by omega, by omega⟩, ⟨by omega, by omega⟩⟩
      have KA := Lib.hid (tt_of hk)
      have KB := Lib.hid (tt_of hk')
      obtain ⟨V, hV⟩ : ∃ V, V = bestAns N L Z 1 0 := ⟨_, rfl⟩
      have KV := Lib.hid hV
      have KW := Lib.hid (show bestAns N (fun _ => N) (turnX Z) 0 1 = V by rw [hV]; exact bestAns_turn hk)
      clear hr hk hk' hV
      go_wp2_with fail
      refine (rateTurn_any N gc ga A L C Z _ (by omega) HL.out HT.out).mono ?_
      rintro e w2 ⟨ta, tc, tA, tC, rfl, hO2, hb2⟩
      rw [KR.out]
      have B2 := Lib.hid hb2
      rw [KN.out] at hO2 ⊢
      have T2 := Lib.hid hO2.tab
      clear hO2
      clear hb2
      go_wp2_with fail
      refine (specRateTurn_any N gc ga A L C Z _ (by omega) HL.out (HT.out.below (Nat.le_refl _) B2.out)).mono ?_
      rintro e w3 ⟨sa, sc, sA, sC, rfl, hO3, hb3⟩
      rw [KR.out]
      have B3 := Lib.hid (below_chain B2.out hb3)
      rw [KN.out] at hO3 ⊢
      have S3 := Lib.hid hO3.tab
      clear hO3
      have T3 := Lib.hid (T2.out.below (Nat.le_refl _) hb3)
      clear hb3
      go_wp2_with fail
      refine (sameRows_any N N tc sc ta sa _ _ _ _ _ _ _ _ _ (by omega) (by omega) (fun _ _ => by show N ≤ _; omega) (fun _ _ => by show N ≤ _; omega) T3.out S3.out).mono ?_
      rintro e w4 ⟨rfl, q3, rfl⟩
      rw [KE.out]
      have hb4 := below_drewN (Below.refl w3.heap.size w3) q3
      have B4 := Lib.hid (below_chain B3.out hb4)
      have T4 := Lib.hid (T3.out.below (Nat.le_refl _) hb4)
      clear hb4
      go_wp2_with fail
      refine (rateTurn_any N tc ta tA _ _ _ _ (by omega) (fun _ _ => by show N ≤ _; omega) T4.out).mono ?_
      rintro e w5 ⟨ba, bc, bA, bC, rfl, hO5, hb5⟩
      rw [KS.out]
      have B5 := Lib.hid (below_chain B4.out hb5)
      rw [KM.out] at hO5 ⊢
      have S5 := Lib.hid hO5.tab
      clear hO5
      have T5 := Lib.hid (T4.out.below (Nat.le_refl _) hb5)
      clear hb5
      go_wp2_with fail
      refine (rateBest_any N tc ta tA _ _ _ 0 1 _ (by omega) (fun _ _ => by show N ≤ _; omega) T5.out ⟨by omega, by omega⟩ ⟨by omega, by omega⟩).mono ?_
      rintro e w6 ⟨rfl, hb6⟩
      rw [KB.out, KW.out]
      have B6 := Lib.hid (below_chain B5.out hb6)
      have S6 := Lib.hid (S5.out.below (Nat.le_refl _) hb6)
      clear hb6
      go_wp2_with fail
      refine (rateBest_any N gc ga A L C Z 1 0 _ (by omega) HL.out (HT.out.below (Nat.le_refl _) B6.out) ⟨by omega, by omega⟩ ⟨by omega, by omega⟩).mono ?_
      rintro e w7 ⟨rfl, hb7⟩
      rw [KA.out, ← KV.out]
      have B7 := Lib.hid (below_chain B6.out hb7)
      have S7 := Lib.hid (S6.out.below (Nat.le_refl _) hb7)
      clear hb7
      go_wp2_with fail
      refine (sameRows_any N N bc gc ba ga _ _ _ _ _ _ _ _ _ (by omega) (by omega) (fun _ _ => by show N ≤ _; omega) HM.out S7.out (HT.out.below (Nat.le_refl _) B7.out)).mono ?_
      rintro e w8 ⟨rfl, q7, rfl⟩
      rw [show tt (SameT N N (fun _ => N) L (turnX (turnX Z)) Z) = true from KF.out]
      go_wp2
      go_ret
      exact ⟨by simp, below_chain B1.out (below_chain B7.out (below_drewN (Below.refl _ _) q7))⟩
    · have KR := Lib.hid (tt_no hr)
      have KN := Lib.hid (turnN_no hr)
      have KE := Lib.hid (tt_of (same_own (n := 0) (L := fun _ => N) (Z := turnX Z)))
      clear hr
      go_wp2_with fail
      refine (rateTurn_any N gc ga A L C Z _ (by omega) HL.out HT.out).mono ?_
      rintro e w2 ⟨ta, tc, tA, tC, rfl, hO2, hb2⟩
      rw [KR.out]
      have B2 := Lib.hid hb2
      rw [KN.out] at hO2 ⊢
      have T2 := Lib.hid hO2.tab
      clear hO2
      clear hb2
      go_wp2_with fail
      refine (specRateTurn_any N gc ga A L C Z _ (by omega) HL.out (HT.out.below (Nat.le_refl _) B2.out)).mono ?_
      rintro e w3 ⟨sa, sc, sA, sC, rfl, hO3, hb3⟩
      rw [KR.out]
      have B3 := Lib.hid (below_chain B2.out hb3)
      rw [KN.out] at hO3 ⊢
      have S3 := Lib.hid hO3.tab
      clear hO3
      have T3 := Lib.hid (T2.out.below (Nat.le_refl _) hb3)
      clear hb3
      go_wp2_with fail
      refine (sameRows_any 0 0 tc sc ta sa _ _ _ _ _ _ _ _ _ (by omega) (by omega) (fun _ _ => by show N ≤ _; omega) (fun _ _ => by show N ≤ _; omega) T3.out S3.out).mono ?_
      rintro e w4 ⟨rfl, q3, rfl⟩
      rw [KE.out]
      have hb4 := below_drewN (Below.refl w3.heap.size w3) q3
      have B4 := Lib.hid (below_chain B3.out hb4)
      have T4 := Lib.hid (T3.out.below (Nat.le_refl _) hb4)
      have S4 := Lib.hid (S3.out.below (Nat.le_refl _) hb4)
      clear hb4
      go_wp2_with fail
      refine (sameRows_any 0 0 tc sc ta sa _ _ _ _ _ _ _ _ _ (by omega) (by omega) (fun _ _ => by show N ≤ _; omega) (fun _ _ => by show N ≤ _; omega) T4.out S4.out).mono ?_
      rintro e w5 ⟨rfl, q4, rfl⟩
      rw [KE.out]
      go_wp2
      go_ret
      exact ⟨by simp, below_chain B1.out (below_chain B3.out (below_drewN (Below.refl _ _) (q3 + q4)))⟩
  · have hd : 1048576 < n := by omega
    clear hb hab
    go_enter Try.func8, Try.ntmps8
    go_wp2_with fail
    go_ret
    exact ⟨rfl, Below.refl _ _⟩
end Go.Proofs.Ytmjbocgoinfamaa
