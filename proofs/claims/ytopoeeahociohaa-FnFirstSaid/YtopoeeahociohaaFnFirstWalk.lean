/- The walk of the law FnFirst: it answers true at every code that can be read. -/
import Derived.Test.YtopoeeahociohaaDrawBidFirst
import Derived.Test.YtopoeeahociohaaBidFirstF
import Derived.Test.YtopoeeahociohaaSpecBidFirst
import Derived.Test.YtopoeeahociohaaBidTotalF
import Derived.Test.YtopoeeahociohaaBidBestF
import Derived.Test.YtopoeeahociohaaBidIsF
import Derived.Test.YtopoeeahociohaaSameInts
import Derived.Test.YtopoeeahociohaaFnBidModel
namespace Go.Proofs.Ytopoeeahociohaa
set_option linter.unusedVariables false
open Go.RowKit

set_option maxHeartbeats 3200000 in
theorem fnFirst_walk (n c : Nat) (a : Option Addr) (B : Nat → Nat) (w : World) (hc : n ≤ c) (hb : RdB w a n B) (hab : 0 < n → ∀ b o, a = some ⟨b, o, none⟩ → b < w.heap.size) :
    Calls Try.prog 14 #[.slice a n c] w fun e w' => e = .returned (.bool true) ∧ Below w.heap.size w w' := by
  by_cases hfit : n ≤ 1048576
  · have hd : ¬ (1048576 < n) := by omega
    have HD := Lib.hid (drawBidFirst_any n c a B w hfit hc hb hab)
    clear hb hab
    go_enter Try.func14, Try.ntmps14
    go_wp2_with fail
    refine HD.out.mono ?_
    rintro e w1 ⟨ga, N, gc, A, L, C, Z, rfl, ⟨hN1, hN4, hgc⟩, hL, hT, hb1⟩
    have V1 := Lib.hid hT
    have B1 := Lib.hid hb1
    have hn0 : N ≤ 1048576 := by omega
    have HL := Lib.hid (show ∀ r, r < N → L r ≤ 1048576 from fun r hr => by have := hL r hr; omega)
    clear hL hT hb1 HD
    go_wp2_with fail
    refine (bidFirst_any N gc ga A L C Z _ hn0 HL.out V1.out).mono ?_
    rintro e w2 ⟨fa, fc, rfl, hO2, hb2⟩
    have F2 := Lib.hid hO2.rd
    have V2 := Lib.hid (V1.out.below (Nat.le_refl _) hb2)
    have B2 := Lib.hid (below_chain B1.out hb2)
    clear hb2 B1 V1
    clear hO2
    go_wp2_with fail
    refine (specBidFirst_any N gc ga A L C Z _ hn0 HL.out V2.out).mono ?_
    rintro e w3 ⟨sa, sc, rfl, hO3, hb3⟩
    have S3 := Lib.hid hO3.rd
    have V3 := Lib.hid (V2.out.below (Nat.le_refl _) hb3)
    have F3 := Lib.hid (F2.out.below (Nat.le_refl _) hb3)
    have B3 := Lib.hid (below_chain B2.out hb3)
    clear hb3 B2 V2 F2
    clear hO3
    by_cases h : IsBids N L Z
    · have K1 := Lib.hid (tt_of h)
      have K2 := Lib.hid (firstN_yes h)
      obtain ⟨D, hD⟩ : ∃ D : Nat → Int, D = nth (firstD N (L 0) Z) := ⟨_, rfl⟩
      obtain ⟨x, hx⟩ : ∃ x, x = bestV N (L 0) Z := ⟨_, rfl⟩
      have hok := first_ok h
      have K3 := Lib.hid (show ifT (DealOk N L Z N D) (dealT Z D N) = x by rw [hD, hx, ← hok.2]; exact ifT_yes hok.1)
      have K4 := Lib.hid (show tt (DealOk N L Z N D) = true by rw [hD]; exact tt_of hok.1)
      have K5 := Lib.hid (show ifT (IsBids N L Z) (bestV N (L 0) Z) = x by rw [hx]; exact ifT_yes h)
      have K6 := Lib.hid (show tt (DealOk N L Z N D ∧ dealT Z D N = bestV N (L 0) Z) = true by rw [hD]; exact tt_of hok)
      have SM := Lib.hid (tt_of (show SameB N N D D from ⟨rfl, fun _ _ => rfl⟩))
      rw [K2.out, ← hD] at F3 S3
      rw [K1.out, K2.out]
      clear h hok hD hx
      go_wp2_with fail
      refine (sameInts_any N N fc sc _ _ _ _ _ (by omega) (by omega) F3.out S3.out).mono ?_
      rintro e w4 ⟨rfl, q4, rfl⟩
      rw [SM.out]
      have V4 := Lib.hid (V3.out.drewN q4)
      have F4 := Lib.hid (F3.out.drewN q4)
      have S4 := Lib.hid (S3.out.drewN q4)
      have B4 := Lib.hid (below_chain B3.out (below_drewN (Below.refl _ _) q4))
      clear B3 V3 F3 S3
      clear S4
      go_wp2_with fail
      refine (bidTotalF_all N gc ga A L C Z N fc fa D _ hn0 HL.out V4.out (by omega) F4.out).mono ?_
      rintro e w5 ⟨rfl, hb5⟩
      rw [K3.out]
      rw [K4.out]
      have V5 := Lib.hid (V4.out.below (Nat.le_refl _) hb5)
      have F5 := Lib.hid (F4.out.below (Nat.le_refl _) hb5)
      have B5 := Lib.hid (below_chain B4.out hb5)
      clear hb5 B4 V4 F4
      go_wp2_with fail
      refine (bidBest_any N gc ga A L C Z _ hn0 HL.out V5.out).mono ?_
      rintro e w6 ⟨rfl, hb6⟩
      rw [K5.out]
      rw [K1.out]
      have V6 := Lib.hid (V5.out.below (Nat.le_refl _) hb6)
      have F6 := Lib.hid (F5.out.below (Nat.le_refl _) hb6)
      have B6 := Lib.hid (below_chain B5.out hb6)
      clear hb6 B5 V5 F5
      go_wp2_with fail
      refine (bidIs_all N gc ga A L C Z N fc fa D _ hn0 HL.out V6.out (by omega) F6.out).mono ?_
      rintro e w7 ⟨rfl, hb7⟩
      rw [K6.out]
      have V7 := Lib.hid (V6.out.below (Nat.le_refl _) hb7)
      have F7 := Lib.hid (F6.out.below (Nat.le_refl _) hb7)
      have B7 := Lib.hid (below_chain B6.out hb7)
      clear hb7 B6 V6 F6
      go_wp2_with fail
      go_ret
      exact ⟨rfl, B7.out⟩
    · have K1 := Lib.hid (tt_no h)
      have K2 := Lib.hid (firstN_no h)
      have SM := Lib.hid (tt_of (show SameB 0 0 (nth (firstD N (L 0) Z)) (nth (firstD N (L 0) Z)) from ⟨rfl, fun _ _ => rfl⟩))
      rw [K2.out] at F3 S3 ⊢
      rw [K1.out]
      clear h
      go_wp2_with fail
      refine (sameInts_any 0 0 fc sc _ _ _ _ _ (by omega) (by omega) F3.out S3.out).mono ?_
      rintro e w4 ⟨rfl, q4, rfl⟩
      rw [SM.out]
      have F4 := Lib.hid (F3.out.drewN q4)
      have S4 := Lib.hid (S3.out.drewN q4)
      clear F3 S3 V3
      go_wp2_with fail
      refine (sameInts_any 0 0 fc sc _ _ _ _ _ (by omega) (by omega) F4.out S4.out).mono ?_
      rintro e w5 ⟨rfl, q5, rfl⟩
      rw [SM.out]
      clear F4 S4
      go_wp2_with fail
      go_ret
      exact ⟨rfl, below_chain B3.out (below_drewN (Below.refl _ _) (q4 + q5))⟩
  · have hd : 1048576 < n := by omega
    clear hb hab
    go_enter Try.func14, Try.ntmps14
    go_wp2
    go_ret
    exact ⟨rfl, Below.refl _ _⟩
end Go.Proofs.Ytopoeeahociohaa
