/- The walk of the law FnOdds: it answers true at every code that can be read. -/
import Derived.Test.YtamgckmkebpgjaaDrawOddsIn
import Derived.Test.YtamgckmkebpgjaaOddsBestF
import Derived.Test.YtamgckmkebpgjaaSpecOddsIn
import Derived.Test.YtamgckmkebpgjaaSameInts
import Derived.Test.YtamgckmkebpgjaaOddsFn
import Derived.Test.YtamgckmkebpgjaaAppendGuard
namespace Go.Proofs.Ytamgckmkebpgjaa
set_option linter.unusedVariables false
open Go.RowKit

set_option maxRecDepth 100000 in
set_option maxHeartbeats 3200000 in
theorem fnOdds_walk (n c : Nat) (a : Option Addr) (B : Nat → Nat) (w : World) (hc : n ≤ c) (hb : RdB w a n B) (hab : 0 < n → ∀ b o, a = some ⟨b, o, none⟩ → b < w.heap.size) :
    Calls Try.prog 3 #[.slice a n c] w fun e w' => e = .returned (.bool true) ∧ Below w.heap.size w w' := by
  by_cases hfit : n ≤ 1048576
  · have hd : ¬ (1048576 < n) := by omega
    have HD := Lib.hid (drawOddsIn_any n c a B w hfit hc hb hab)
    clear hb hab
    go_enter Try.func3, Try.ntmps3
    go_wp2_with fail
    refine HD.out.mono ?_
    rintro e w1 ⟨g, q, d, X, rfl, ⟨hq1, hq7, hqd⟩, hX, hb1⟩
    have V1 := Lib.hid hX
    have B1 := Lib.hid hb1
    have hq0 : q ≤ 1048576 := by omega
    clear hX hb1 HD
    go_wp2_with fail
    refine (oddsIn_all q d (some ⟨g, 0, none⟩) X _ hq0 V1.out).mono ?_
    rintro e w2 ⟨rfl, hb2⟩
    have V2 := Lib.hid (V1.out.below (Nat.le_refl _) hb2)
    have B2 := Lib.hid (below_chain B1.out hb2)
    clear hb2 B1 V1
    go_wp2_with fail
    refine (specOddsIn_any q d (some ⟨g, 0, none⟩) X _ hq0 V2.out).mono ?_
    rintro e w3 ⟨rfl, hb3⟩
    have V3 := Lib.hid (V2.out.below (Nat.le_refl _) hb3)
    have B3 := Lib.hid (below_chain B2.out hb3)
    clear hb3 B2 V2
    by_cases h : IsOdds q X
    · have K1 := Lib.hid (tt_of h)
      have K2 := Lib.hid (tt_of (top_odds h))
      have K3 := Lib.hid (tt_of (show BestOk q X q (topF X) from ⟨⟨h, top_odds h⟩, rfl⟩))
      have K4 := Lib.hid (bestN_yes (show BestOk q X q (topF X) from ⟨⟨h, top_odds h⟩, rfl⟩))
      have SM := Lib.hid (tt_of (show SameB q q (bestF X (topF X)) (topF X) from ⟨rfl, fun j hj => best_top h j hj⟩))
      have hq2 : 2 ≤ q := h.1.1
      have hqq : 1 + (q - 1) = q := by omega
      have HQ := Lib.hid hqq
      have TC := Lib.hid (top_cells (X := X) hq1)
      rw [K1.out]
      clear h hqq
      obtain ⟨i0, hi, hz0, hz1, hz2⟩ := info_parts Try.infoInt
      have X3' := Lib.hid (rd_tailO V3.out)
      go_wp2_with (at_builtin; refine wpList_append_guard _ (by rfl) (.tmp 28) (.tmp 30) 23 (by rfl) 3 i0 (.int .i64 0) 1 8 Try.underlying23 hi hz0 hz1 hz2 (by rfl) (by decide) ⟨_, 0, none⟩ 1 1 [.int .i64 20] (by rfl) (by rfl) (news_one (by simp)) ⟨g, 1, none⟩ (q - 1) (d - 1) (cellsL (q - 1) (fun j => X (1 + j))) (by rfl) ((cellsL_length _ _).trans (Nat.mul_one _).symm) (X3'.out.news (by repeat (first | exact Below.refl _ _ | refine Below.drew ?_ | refine below_alloc ?_ _))) (by omega) (by unfold maxLen; omega) (by omega) ?_; intro v1 w4 hown4 hgrow4; rw [TC.out, HQ.out] at hown4; obtain ⟨g4, c4, rfl⟩ := owns_form hown4 (by omega); have O4 := Lib.hid (owns_rd hown4); have hb4 := Below.grown (a := w3) (by repeat (first | exact Below.refl _ _ | refine Below.drew ?_ | refine below_alloc ?_ _)) hgrow4 (by simp) (fun k h => by cases h); have B4 := Lib.hid (below_chain B3.out hb4); have V4 := Lib.hid (V3.out.below (Nat.le_refl _) hb4); clear hown4 hgrow4 hb4)
      refine (oddsBest_all q d q c4 (some ⟨g, 0, none⟩) (some ⟨g4, 0, none⟩) X (topF X) _ hq0 V4.out hq0 O4.out).mono ?_
      rintro e w5 ⟨ba, bc, rfl, hO5, hb5⟩
      rw [K4.out] at hO5 ⊢
      rw [K3.out]
      have Q5 := Lib.hid hO5.rd
      have V5 := Lib.hid (V4.out.below (Nat.le_refl _) hb5)
      have O5 := Lib.hid (O4.out.below (Nat.le_refl _) hb5)
      have B5 := Lib.hid (below_chain B4.out hb5)
      clear hb5 B4 V4 O4
      clear hO5
      go_wp2_with fail
      refine (oddsIn_all q c4 (some ⟨g4, 0, none⟩) (topF X) _ hq0 O5.out).mono ?_
      rintro e w6 ⟨rfl, hb6⟩
      rw [K2.out]
      have V6 := Lib.hid (V5.out.below (Nat.le_refl _) hb6)
      have O6 := Lib.hid (O5.out.below (Nat.le_refl _) hb6)
      have Q6 := Lib.hid (Q5.out.below (Nat.le_refl _) hb6)
      have B6 := Lib.hid (below_chain B5.out hb6)
      clear hb6 B5 V5 O5 Q5
      go_wp2_with fail
      refine (sameInts_any q q bc c4 _ _ _ _ _ (by omega) (by omega) Q6.out O6.out).mono ?_
      rintro e w7 ⟨rfl, q7, rfl⟩
      rw [SM.out]
      have V7 := Lib.hid (V6.out.drewN q7)
      have O7 := Lib.hid (O6.out.drewN q7)
      have Q7 := Lib.hid (Q6.out.drewN q7)
      have B7 := Lib.hid (below_chain B6.out (below_drewN (Below.refl _ _) q7))
      clear B6 V6 O6 Q6
      go_wp2_with fail
      go_ret
      exact ⟨rfl, B7.out⟩
    · have K1 := Lib.hid (tt_no h)
      rw [K1.out]
      clear h
      go_wp2_with fail
      go_ret
      exact ⟨rfl, B3.out⟩
  · have hd : 1048576 < n := by omega
    clear hb hab
    go_enter Try.func3, Try.ntmps3
    go_wp2
    go_ret
    exact ⟨rfl, Below.refl _ _⟩
end Go.Proofs.Ytamgckmkebpgjaa
