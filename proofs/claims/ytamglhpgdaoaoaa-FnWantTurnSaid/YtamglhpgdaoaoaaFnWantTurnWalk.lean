/- The walk of the law FnWantTurn: it answers true at every code that can be read. -/
import Derived.Test.YtamglhpgdaoaoaaDrawWantTurn
import Derived.Test.YtamglhpgdaoaoaaWantTurn
import Derived.Test.YtamglhpgdaoaoaaSpecWantTurn
import Derived.Test.YtamglhpgdaoaoaaWantTry
import Derived.Test.YtamglhpgdaoaoaaSameInts
namespace Go.Proofs.Ytamglhpgdaoaoaa
set_option linter.unusedVariables false
open Go.RowKit

set_option maxHeartbeats 3200000 in
theorem fnWantTurn_walk (n c : Nat) (a : Option Addr) (B : Nat → Nat) (w : World) (hc : n ≤ c) (hb : RdB w a n B) (hab : 0 < n → ∀ b o, a = some ⟨b, o, none⟩ → b < w.heap.size) :
    Calls Try.prog 5 #[.slice a n c] w fun e w' => e = .returned (.bool true) ∧ Below w.heap.size w w' := by
  by_cases hfit : n ≤ 1048576
  · have hd : ¬ (1048576 < n) := by omega
    have HD := Lib.hid (drawWantTurn_any n c a B w hfit hc hb hab)
    clear hb hab
    go_enter Try.func5, Try.ntmps5
    go_wp2_with fail
    refine HD.out.mono ?_
    rintro e w1 ⟨ga, m, gc, X, rfl, ⟨hm2, hm6, hmc⟩, hX, hb1⟩
    have HX := Lib.hid hX
    have B1 := Lib.hid hb1
    clear hX hb1 HD
    go_wp2_with fail
    refine (wantTurn_all m gc _ X _ (by omega) HX.out).mono ?_
    rintro e w2 ⟨ta, tc, rfl, hO2, hb2⟩
    have R2 := Lib.hid hO2.rd
    have X2 := Lib.hid (HX.out.below (Nat.le_refl _) hb2)
    have B2 := Lib.hid (below_chain B1.out hb2)
    clear hO2 hb2 HX B1
    go_wp2_with fail
    refine (specWantTurn_any m gc _ X _ (by omega) X2.out).mono ?_
    rintro e w3 ⟨sa, sc, rfl, hO3, hb3⟩
    have R3 := Lib.hid hO3.rd
    have R2' := Lib.hid (R2.out.below (Nat.le_refl _) hb3)
    have X3 := Lib.hid (X2.out.below (Nat.le_refl _) hb3)
    have B3 := Lib.hid (below_chain B2.out hb3)
    clear hO3 hb3 R2 X2 B2
    by_cases h : IsWants m X
    · have K1 := Lib.hid (tt_of h)
      have K2 := Lib.hid (wantN_yes h)
      have K3 := Lib.hid (tt_of (turn_is h))
      have K4 := Lib.hid (wantN_yes (turn_is h))
      have KE := Lib.hid (show tryAns m (turnW m X) = tryAns m X by rw [tryAns_yes h, tryAns_yes (turn_is h), turn_most h])
      have SM := Lib.hid (tt_of (show SameB m m (turnW m X) (turnW m X) from ⟨rfl, fun _ _ => rfl⟩))
      have ST := Lib.hid (tt_of (show SameB m m (turnW m (turnW m X)) X from ⟨rfl, fun i hi => turn_twice h hi⟩))
      rw [K2.out] at R2' R3 ⊢
      rw [K1.out]
      clear h
      go_wp2_with fail
      refine (sameInts_any m m tc sc _ _ _ _ _ (by omega) (by omega) R2'.out R3.out).mono ?_
      rintro e w4 ⟨rfl, q4, rfl⟩
      rw [SM.out]
      have B4 := Lib.hid (below_chain B3.out (below_drewN (Below.refl _ _) q4))
      have R4 := Lib.hid (R2'.out.drewN q4)
      have X4 := Lib.hid (X3.out.drewN q4)
      clear R2' R3 X3 B3
      go_wp2_with fail
      refine (wantTurn_all m tc _ _ _ (by omega) R4.out).mono ?_
      rintro e w5 ⟨ua, uc, rfl, hO5, hb5⟩
      rw [K4.out] at hO5 ⊢
      rw [K3.out]
      have U5 := Lib.hid hO5.rd
      have R5 := Lib.hid (R4.out.below (Nat.le_refl _) hb5)
      have X5 := Lib.hid (X4.out.below (Nat.le_refl _) hb5)
      have B5 := Lib.hid (below_chain B4.out hb5)
      clear hO5 hb5 R4 X4 B4
      go_wp2_with fail
      refine (wantTry_all m gc _ _ _ (by omega) X5.out).mono ?_
      rintro e w6 ⟨rfl, hb6⟩
      rw [K1.out]
      have U6 := Lib.hid (U5.out.below (Nat.le_refl _) hb6)
      have R6 := Lib.hid (R5.out.below (Nat.le_refl _) hb6)
      have X6 := Lib.hid (X5.out.below (Nat.le_refl _) hb6)
      have B6 := Lib.hid (below_chain B5.out hb6)
      clear hb6 U5 R5 X5 B5
      go_wp2_with fail
      refine (wantTry_all m tc _ _ _ (by omega) R6.out).mono ?_
      rintro e w7 ⟨rfl, hb7⟩
      rw [K3.out, KE.out]
      have U7 := Lib.hid (U6.out.below (Nat.le_refl _) hb7)
      have X7 := Lib.hid (X6.out.below (Nat.le_refl _) hb7)
      have B7 := Lib.hid (below_chain B6.out hb7)
      clear hb7 U6 R6 X6 B6
      go_wp2_with fail
      refine (sameInts_any m m uc gc _ _ _ _ _ (by omega) (by omega) U7.out X7.out).mono ?_
      rintro e w8 ⟨rfl, q8, rfl⟩
      rw [ST.out]
      have B8 := Lib.hid (below_chain B7.out (below_drewN (Below.refl _ _) q8))
      clear B7 U7 X7
      go_wp2_with fail
      go_ret
      exact ⟨rfl, B8.out⟩
    · have K1 := Lib.hid (tt_no h)
      have K2 := Lib.hid (wantN_no h)
      have SM := Lib.hid (tt_of (show SameB 0 0 (turnW m X) (turnW m X) from ⟨rfl, fun _ _ => rfl⟩))
      rw [K2.out] at R2' R3 ⊢
      rw [K1.out]
      clear h
      go_wp2_with fail
      refine (sameInts_any 0 0 tc sc _ _ _ _ _ (by omega) (by omega) R2'.out R3.out).mono ?_
      rintro e w4 ⟨rfl, q4, rfl⟩
      rw [SM.out]
      have R4 := Lib.hid (R2'.out.drewN q4)
      have S4 := Lib.hid (R3.out.drewN q4)
      clear R2' R3 X3
      go_wp2_with fail
      refine (sameInts_any 0 0 tc sc _ _ _ _ _ (by omega) (by omega) R4.out S4.out).mono ?_
      rintro e w5 ⟨rfl, q5, rfl⟩
      rw [SM.out]
      clear R4 S4
      go_wp2_with fail
      go_ret
      exact ⟨rfl, below_chain B3.out (below_drewN (Below.refl _ _) (q4 + q5))⟩
  · have hd : 1048576 < n := by omega
    clear hb hab
    go_enter Try.func5, Try.ntmps5
    go_wp2
    go_ret
    exact ⟨rfl, Below.refl _ _⟩
end Go.Proofs.Ytamglhpgdaoaoaa
