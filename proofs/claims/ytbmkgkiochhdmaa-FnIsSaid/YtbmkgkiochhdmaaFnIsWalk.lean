/- The walk of the law FnIs: it answers true at every code that can be read. -/
import Derived.Test.YtbmkgkiochhdmaaDrawBidIs
import Derived.Test.YtbmkgkiochhdmaaBidIsF
import Derived.Test.YtbmkgkiochhdmaaSpecBidIs
import Derived.Test.YtbmkgkiochhdmaaBidDealsF
import Derived.Test.YtbmkgkiochhdmaaBidTotalF
import Derived.Test.YtbmkgkiochhdmaaBidBestF
import Derived.Test.YtbmkgkiochhdmaaFnBidModel
namespace Go.Proofs.Ytbmkgkiochhdmaa
set_option linter.unusedVariables false
open Go.RowKit

set_option maxHeartbeats 3200000 in
theorem fnIs_walk (n c : Nat) (a : Option Addr) (B : Nat → Nat) (w : World) (hc : n ≤ c) (hb : RdB w a n B) (hab : 0 < n → ∀ b o, a = some ⟨b, o, none⟩ → b < w.heap.size) :
    Calls Try.prog 5 #[.slice a n c] w fun e w' => e = .returned (.bool true) ∧ Below w.heap.size w w' := by
  by_cases hfit : n ≤ 1048576
  · have hd : ¬ (1048576 < n) := by omega
    have HD := Lib.hid (drawBidIs_any n c a B w hfit hc hb hab)
    clear hb hab
    go_enter Try.func5, Try.ntmps5
    go_wp2_with fail
    refine HD.out.mono ?_
    rintro e w1 ⟨ga, N, gc, A, L, C, Z, b, q, d, D, rfl, ⟨hN1, hN4, hgc⟩, hq4, hL, hT, hDr, hb1⟩
    have V1 := Lib.hid hT
    have R1 := Lib.hid hDr
    have B1 := Lib.hid hb1
    have hn0 : N ≤ 1048576 := by omega
    have hq0 : q ≤ 1048576 := by omega
    have HL := Lib.hid (show ∀ r, r < N → L r ≤ 1048576 from fun r hr => by have := hL r hr; omega)
    clear hL hT hDr hb1 HD
    go_wp2_with fail
    refine (bidIs_all N gc ga A L C Z q d b D _ hn0 HL.out V1.out hq0 R1.out).mono ?_
    rintro e w2 ⟨rfl, hb2⟩
    have V2 := Lib.hid (V1.out.below (Nat.le_refl _) hb2)
    have R2 := Lib.hid (R1.out.below (Nat.le_refl _) hb2)
    have B2 := Lib.hid (below_chain B1.out hb2)
    clear hb2 B1 V1 R1
    go_wp2_with fail
    refine (specBidIs_any N gc ga A L C Z q d b D _ hn0 HL.out V2.out hq0 R2.out).mono ?_
    rintro e w3 ⟨rfl, hb3⟩
    have V3 := Lib.hid (V2.out.below (Nat.le_refl _) hb3)
    have R3 := Lib.hid (R2.out.below (Nat.le_refl _) hb3)
    have B3 := Lib.hid (below_chain B2.out hb3)
    clear hb3 B2 V2 R2
    by_cases h : DealOk N L Z q D ∧ dealT Z D q = bestV N (L 0) Z
    · have K1 := Lib.hid (tt_of h)
      have hz1 := bests_pos (Z := Z) (dealsP_none (m := L 0) N)
      obtain ⟨z, hz⟩ : ∃ z, z = (bestsL N Z (dealsP (L 0) N)).length := ⟨_, rfl⟩
      rw [← hz] at hz1
      have hzd : decide ((z : Int) ≥ 1) = true := by simp; omega
      have hzd2 : decide (1 ≤ z) = true := by simp; omega
      obtain ⟨x, hx⟩ : ∃ x, x = bestV N (L 0) Z := ⟨_, rfl⟩
      have K2 := Lib.hid (show ifT (IsBids N L Z) ((bestsL N Z (dealsP (L 0) N)).length : Nat) = (z : Nat) by rw [hz]; exact ifT_yes h.1.1.1)
      have K3 := Lib.hid (tt_of h.1.1.1)
      have K4 := Lib.hid (show ifT (DealOk N L Z q D) (dealT Z D q) = x by rw [hx, ← h.2]; exact ifT_yes h.1)
      have K5 := Lib.hid (tt_of h.1)
      have K6 := Lib.hid (show ifT (IsBids N L Z) (bestV N (L 0) Z) = x by rw [hx]; exact ifT_yes h.1.1.1)
      rw [K1.out]
      clear h hz hx
      go_wp2_with fail
      refine (bidDealsN_any N gc ga A L C Z _ hn0 HL.out V3.out).mono ?_
      rintro e w4 ⟨rfl, hb4⟩
      rw [K2.out]
      rw [K3.out]
      have V4 := Lib.hid (V3.out.below (Nat.le_refl _) hb4)
      have R4 := Lib.hid (R3.out.below (Nat.le_refl _) hb4)
      have B4 := Lib.hid (below_chain B3.out hb4)
      clear hb4 B3 V3 R3
      go_wp2_with fail
      refine (bidTotalF_all N gc ga A L C Z q d b D _ hn0 HL.out V4.out hq0 R4.out).mono ?_
      rintro e w5 ⟨rfl, hb5⟩
      rw [K4.out]
      rw [K5.out]
      have V5 := Lib.hid (V4.out.below (Nat.le_refl _) hb5)
      have R5 := Lib.hid (R4.out.below (Nat.le_refl _) hb5)
      have B5 := Lib.hid (below_chain B4.out hb5)
      clear hb5 B4 V4 R4
      go_wp2_with fail
      refine (bidBest_any N gc ga A L C Z _ hn0 HL.out V5.out).mono ?_
      rintro e w6 ⟨rfl, hb6⟩
      rw [K6.out]
      rw [K3.out]
      have V6 := Lib.hid (V5.out.below (Nat.le_refl _) hb6)
      have R6 := Lib.hid (R5.out.below (Nat.le_refl _) hb6)
      have B6 := Lib.hid (below_chain B5.out hb6)
      clear hb6 B5 V5 R5
      go_wp2_with fail
      go_ret
      exact ⟨rfl, B6.out⟩
    · have K1 := Lib.hid (tt_no h)
      rw [K1.out]
      clear h
      go_wp2_with fail
      go_ret
      exact ⟨rfl, B3.out⟩
  · have hd : 1048576 < n := by omega
    clear hb hab
    go_enter Try.func5, Try.ntmps5
    go_wp2
    go_ret
    exact ⟨rfl, Below.refl _ _⟩
end Go.Proofs.Ytbmkgkiochhdmaa
