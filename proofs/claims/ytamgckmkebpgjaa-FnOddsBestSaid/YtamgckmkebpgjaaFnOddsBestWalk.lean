/- The walk of the law FnOddsBest: it answers true at every code that can be read. -/
import Derived.Test.YtamgckmkebpgjaaDrawOddsBest
import Derived.Test.YtamgckmkebpgjaaOddsBestF
import Derived.Test.YtamgckmkebpgjaaSpecOddsBest
import Derived.Test.YtamgckmkebpgjaaOddsSureF
import Derived.Test.YtamgckmkebpgjaaSameInts
import Derived.Test.YtamgckmkebpgjaaOddsFn
namespace Go.Proofs.Ytamgckmkebpgjaa
set_option linter.unusedVariables false
open Go.RowKit

set_option maxRecDepth 100000 in
set_option maxHeartbeats 3200000 in
theorem fnOddsBest_walk (n c : Nat) (a : Option Addr) (B : Nat → Nat) (w : World) (hc : n ≤ c) (hb : RdB w a n B) (hab : 0 < n → ∀ b o, a = some ⟨b, o, none⟩ → b < w.heap.size) :
    Calls Try.prog 5 #[.slice a n c] w fun e w' => e = .returned (.bool true) ∧ Below w.heap.size w w' := by
  by_cases hfit : n ≤ 1048576
  · have hd : ¬ (1048576 < n) := by omega
    have HD := Lib.hid (drawOddsBest_any n c a B w hfit hc hb hab)
    clear hb hab
    go_enter Try.func5, Try.ntmps5
    go_wp2_with fail
    refine HD.out.mono ?_
    rintro e w1 ⟨g, q, d, X, ab, q2, d2, Y, rfl, ⟨hq1, hq7, hqd⟩, hq27, hX, hY, hb1⟩
    have V1 := Lib.hid hX
    have Y1 := Lib.hid hY
    have B1 := Lib.hid hb1
    have hq0 : q ≤ 1048576 := by omega
    have hq20 : q2 ≤ 1048576 := by omega
    clear hX hY hb1 HD
    go_wp2_with fail
    refine (oddsBest_all q d q2 d2 (some ⟨g, 0, none⟩) ab X Y _ hq0 V1.out hq20 Y1.out).mono ?_
    rintro e w2 ⟨fa, fc, rfl, hO2, hb2⟩
    have F2 := Lib.hid hO2.rd
    have V2 := Lib.hid (V1.out.below (Nat.le_refl _) hb2)
    have Y2 := Lib.hid (Y1.out.below (Nat.le_refl _) hb2)
    have B2 := Lib.hid (below_chain B1.out hb2)
    clear hb2 B1 V1 Y1
    clear hO2
    go_wp2_with fail
    refine (specOddsBest_any q d q2 d2 (some ⟨g, 0, none⟩) ab X Y _ hq0 V2.out hq20 Y2.out).mono ?_
    rintro e w3 ⟨sa, sc, rfl, hO3, hb3⟩
    have S3 := Lib.hid hO3.rd
    have V3 := Lib.hid (V2.out.below (Nat.le_refl _) hb3)
    have Y3 := Lib.hid (Y2.out.below (Nat.le_refl _) hb3)
    have F3 := Lib.hid (F2.out.below (Nat.le_refl _) hb3)
    have B3 := Lib.hid (below_chain B2.out hb3)
    clear hb3 B2 V2 Y2 F2
    clear hO3
    by_cases h : BestOk q X q2 Y
    · have K1 := Lib.hid (tt_of h)
      have K2 := Lib.hid (bestN_yes h)
      have hqe := h.2
      subst hqe
      have hBk : BestOk q Y q X := ⟨⟨h.1.2, h.1.1⟩, rfl⟩
      have K3 := Lib.hid (tt_of hBk)
      have K4 := Lib.hid (bestN_yes hBk)
      have SM := Lib.hid (tt_of (show SameB q q (bestF X Y) (bestF X Y) from ⟨rfl, fun _ _ => rfl⟩))
      have SM2 := Lib.hid (tt_of (show SameB q q (bestF Y X) (bestF X Y) from ⟨rfl, fun j _ => best_comm j⟩))
      have HS := Lib.hid (fun hs : SureP q X => best_sure h.1.1 h.1.2 hs)
      have HS' := Lib.hid (fun hs : SureP q Y => best_sure' h.1.1 h.1.2 hs)
      rw [K2.out] at F3 S3 ⊢
      rw [K1.out]
      clear h hBk
      go_wp2_with fail
      refine (sameInts_any q q fc sc _ _ _ _ _ (by omega) (by omega) F3.out S3.out).mono ?_
      rintro e w4 ⟨rfl, q4, rfl⟩
      rw [SM.out]
      have V4 := Lib.hid (V3.out.drewN q4)
      have Y4 := Lib.hid (Y3.out.drewN q4)
      have F4 := Lib.hid (F3.out.drewN q4)
      have S4 := Lib.hid (S3.out.drewN q4)
      have B4 := Lib.hid (below_chain B3.out (below_drewN (Below.refl _ _) q4))
      clear B3 V3 Y3 F3 S3
      clear S4
      go_wp2_with fail
      refine (oddsBest_all q d2 q d ab (some ⟨g, 0, none⟩) Y X _ hq0 Y4.out hq0 V4.out).mono ?_
      rintro e w5 ⟨ga', gc', rfl, hO5, hb5⟩
      rw [K4.out] at hO5 ⊢
      rw [K3.out]
      have G5 := Lib.hid hO5.rd
      have V5 := Lib.hid (V4.out.below (Nat.le_refl _) hb5)
      have Y5 := Lib.hid (Y4.out.below (Nat.le_refl _) hb5)
      have F5 := Lib.hid (F4.out.below (Nat.le_refl _) hb5)
      have B5 := Lib.hid (below_chain B4.out hb5)
      clear hb5 B4 V4 Y4 F4
      clear hO5
      go_wp2_with fail
      refine (sameInts_any q q gc' fc _ _ _ _ _ (by omega) (by omega) G5.out F5.out).mono ?_
      rintro e w6 ⟨rfl, q6, rfl⟩
      rw [SM2.out]
      have V6 := Lib.hid (V5.out.drewN q6)
      have Y6 := Lib.hid (Y5.out.drewN q6)
      have F6 := Lib.hid (F5.out.drewN q6)
      have G6 := Lib.hid (G5.out.drewN q6)
      have B6 := Lib.hid (below_chain B5.out (below_drewN (Below.refl _ _) q6))
      clear B5 V5 Y5 F5 G5
      clear G6
      by_cases hs : SureP q (bestF X Y)
      · have K5 := Lib.hid (tt_of hs)
        clear hs
        go_wp2_with fail
        refine (oddsSure_all q fc fa (bestF X Y) _ hq0 F6.out).mono ?_
        rintro e w7 ⟨rfl, hb7⟩
        rw [K5.out]
        have B7 := Lib.hid (below_chain B6.out hb7)
        clear hb7
        go_wp2_with fail
        go_ret
        exact ⟨rfl, B7.out⟩
      · have K5 := Lib.hid (tt_no hs)
        have K6 := Lib.hid (tt_no (show ¬ SureP q X from fun h' => hs (HS.out h')))
        have K7 := Lib.hid (tt_no (show ¬ SureP q Y from fun h' => hs (HS'.out h')))
        clear hs
        go_wp2_with fail
        refine (oddsSure_all q fc fa (bestF X Y) _ hq0 F6.out).mono ?_
        rintro e w7 ⟨rfl, hb7⟩
        rw [K5.out]
        have V7 := Lib.hid (V6.out.below (Nat.le_refl _) hb7)
        have Y7 := Lib.hid (Y6.out.below (Nat.le_refl _) hb7)
        have F7 := Lib.hid (F6.out.below (Nat.le_refl _) hb7)
        have B7 := Lib.hid (below_chain B6.out hb7)
        clear hb7 B6 V6 Y6 F6
        go_wp2_with fail
        refine (oddsSure_all q d (some ⟨g, 0, none⟩) X _ hq0 V7.out).mono ?_
        rintro e w8 ⟨rfl, hb8⟩
        rw [K6.out]
        have V8 := Lib.hid (V7.out.below (Nat.le_refl _) hb8)
        have Y8 := Lib.hid (Y7.out.below (Nat.le_refl _) hb8)
        have F8 := Lib.hid (F7.out.below (Nat.le_refl _) hb8)
        have B8 := Lib.hid (below_chain B7.out hb8)
        clear hb8 B7 V7 Y7 F7
        go_wp2_with fail
        refine (oddsSure_all q d2 ab Y _ hq0 Y8.out).mono ?_
        rintro e w9 ⟨rfl, hb9⟩
        rw [K7.out]
        have V9 := Lib.hid (V8.out.below (Nat.le_refl _) hb9)
        have Y9 := Lib.hid (Y8.out.below (Nat.le_refl _) hb9)
        have F9 := Lib.hid (F8.out.below (Nat.le_refl _) hb9)
        have B9 := Lib.hid (below_chain B8.out hb9)
        clear hb9 B8 V8 Y8 F8
        go_wp2_with fail
        go_ret
        exact ⟨rfl, B9.out⟩
    · have K1 := Lib.hid (tt_no h)
      have K2 := Lib.hid (bestN_no h)
      have SM := Lib.hid (tt_of (show SameB 0 0 (bestF X Y) (bestF X Y) from ⟨rfl, fun _ _ => rfl⟩))
      rw [K2.out] at F3 S3 ⊢
      rw [K1.out]
      clear h
      go_wp2_with fail
      refine (sameInts_any 0 0 fc sc _ _ _ _ _ (by omega) (by omega) F3.out S3.out).mono ?_
      rintro e w4 ⟨rfl, q4, rfl⟩
      rw [SM.out]
      have F4 := Lib.hid (F3.out.drewN q4)
      have S4 := Lib.hid (S3.out.drewN q4)
      clear F3 S3 V3
      go_wp2_with fail
      refine (sameInts_any 0 0 fc sc _ _ _ _ _ (by omega) (by omega) F4.out S4.out).mono ?_
      rintro e w5 ⟨rfl, q5, rfl⟩
      rw [SM.out]
      clear F4 S4
      go_wp2_with fail
      go_ret
      exact ⟨rfl, below_chain B3.out (below_drewN (Below.refl _ _) (q4 + q5))⟩
  · have hd : 1048576 < n := by omega
    clear hb hab
    go_enter Try.func5, Try.ntmps5
    go_wp2
    go_ret
    exact ⟨rfl, Below.refl _ _⟩
end Go.Proofs.Ytamgckmkebpgjaa
