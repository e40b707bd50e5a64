/- The walk of the law FnTotal: it answers true at every code that can be read. -/
import Derived.Test.YtbmkgkiochhdmaaDrawBidTotal
import Derived.Test.YtbmkgkiochhdmaaBidTotalF
import Derived.Test.YtbmkgkiochhdmaaSpecBidTotal
import Derived.Test.YtbmkgkiochhdmaaBidBestF
import Derived.Test.YtbmkgkiochhdmaaBidIsF
import Derived.Test.YtbmkgkiochhdmaaFnBidModel
namespace Go.Proofs.Ytbmkgkiochhdmaa
set_option linter.unusedVariables false
open Go.RowKit

set_option maxHeartbeats 3200000 in
theorem fnTotal_walk (n c : Nat) (a : Option Addr) (B : Nat → Nat) (w : World) (hc : n ≤ c) (hb : RdB w a n B) (hab : 0 < n → ∀ b o, a = some ⟨b, o, none⟩ → b < w.heap.size) :
    Calls Try.prog 4 #[.slice a n c] w fun e w' => e = .returned (.bool true) ∧ Below w.heap.size w w' := by
  by_cases hfit : n ≤ 1048576
  · have hd : ¬ (1048576 < n) := by omega
    have HD := Lib.hid (drawBidTotal_any n c a B w hfit hc hb hab)
    clear hb hab
    go_enter Try.func4, Try.ntmps4
    go_wp2_with fail
    refine HD.out.mono ?_
    rintro e w1 ⟨ga, N, gc, A, L, C, Z, b, q, d, D, rfl, ⟨hN1, hN4, hgc⟩, hq4, hL, hT, hDr, hb1⟩
    have V1 := Lib.hid hT
    have R1 := Lib.hid hDr
    have B1 := Lib.hid hb1
    have hn0 : N ≤ 1048576 := by omega
    have hq0 : q ≤ 1048576 := by omega
    have HL := Lib.hid (show ∀ r, r < N → L r ≤ 1048576 from fun r hr => by have := hL r hr; omega)
    clear hL hT hDr hb1 HD
    go_wp2_with fail
    refine (bidTotalF_all N gc ga A L C Z q d b D _ hn0 HL.out V1.out hq0 R1.out).mono ?_
    rintro e w2 ⟨rfl, hb2⟩
    have V2 := Lib.hid (V1.out.below (Nat.le_refl _) hb2)
    have R2 := Lib.hid (R1.out.below (Nat.le_refl _) hb2)
    have B2 := Lib.hid (below_chain B1.out hb2)
    clear hb2 B1 V1 R1
    go_wp2_with fail
    refine (specBidTotal_any N gc ga A L C Z q d b D _ hn0 HL.out V2.out hq0 R2.out).mono ?_
    rintro e w3 ⟨rfl, hb3⟩
    have V3 := Lib.hid (V2.out.below (Nat.le_refl _) hb3)
    have R3 := Lib.hid (R2.out.below (Nat.le_refl _) hb3)
    have B3 := Lib.hid (below_chain B2.out hb3)
    clear hb3 B2 V2 R2
    by_cases h : DealOk N L Z q D
    · have K1 := Lib.hid (tt_of h)
      have hrg := total_range h.1.1 (show IsDeal N (L 0) D by rw [← h.2]; exact h.1.2)
      have hqN := h.2
      obtain ⟨x, hx⟩ : ∃ x, x = dealT Z D q := ⟨_, rfl⟩
      obtain ⟨y, hy⟩ : ∃ y, y = bestV N (L 0) Z := ⟨_, rfl⟩
      rw [← hqN, ← hx] at hrg
      rw [hqN, ← hy] at hrg
      have K2 := Lib.hid (show ifT (DealOk N L Z q D) (dealT Z D q) = x by rw [hx]; exact ifT_yes h)
      have K3 := Lib.hid (show ifT (IsBids N L Z) (bestV N (L 0) Z) = y by rw [hy]; exact ifT_yes h.1.1)
      have K4 := Lib.hid (tt_of h.1.1)
      have K5 := Lib.hid (show tt (DealOk N L Z q D ∧ dealT Z D q = bestV N (L 0) Z) = tt (x = y) from tt_congr ⟨fun h' => by rw [hx, hy]; exact h'.2, fun h' => ⟨h, by rw [← hx, ← hy]; exact h'⟩⟩)
      have hx0 : 0 ≤ x := hrg.1
      have hxy : x ≤ y := hrg.2
      rw [K1.out, K2.out]
      clear h hrg hqN hx hy
      by_cases hxe : x = y
      · have K6 := Lib.hid (tt_of hxe)
        have d1 : (x == y) = true := by simp [hxe]
        clear hxe
        go_wp2_with fail
        refine (bidBest_any N gc ga A L C Z _ hn0 HL.out V3.out).mono ?_
        rintro e w4 ⟨rfl, hb4⟩
        rw [K3.out]
        rw [K4.out]
        have V4 := Lib.hid (V3.out.below (Nat.le_refl _) hb4)
        have R4 := Lib.hid (R3.out.below (Nat.le_refl _) hb4)
        have B4 := Lib.hid (below_chain B3.out hb4)
        clear hb4 B3 V3 R3
        go_wp2_with fail
        refine (bidIs_all N gc ga A L C Z q d b D _ hn0 HL.out V4.out hq0 R4.out).mono ?_
        rintro e w5 ⟨rfl, hb5⟩
        rw [K5.out]
        rw [K6.out]
        have V5 := Lib.hid (V4.out.below (Nat.le_refl _) hb5)
        have R5 := Lib.hid (R4.out.below (Nat.le_refl _) hb5)
        have B5 := Lib.hid (below_chain B4.out hb5)
        clear hb5 B4 V4 R4
        go_wp2_with fail
        go_ret
        exact ⟨rfl, B5.out⟩
      · have K6 := Lib.hid (tt_no hxe)
        have d1 : (x == y) = false := beq_eq_false_iff_ne.2 hxe
        clear hxe
        go_wp2_with fail
        refine (bidBest_any N gc ga A L C Z _ hn0 HL.out V3.out).mono ?_
        rintro e w4 ⟨rfl, hb4⟩
        rw [K3.out]
        rw [K4.out]
        have V4 := Lib.hid (V3.out.below (Nat.le_refl _) hb4)
        have R4 := Lib.hid (R3.out.below (Nat.le_refl _) hb4)
        have B4 := Lib.hid (below_chain B3.out hb4)
        clear hb4 B3 V3 R3
        go_wp2_with fail
        refine (bidIs_all N gc ga A L C Z q d b D _ hn0 HL.out V4.out hq0 R4.out).mono ?_
        rintro e w5 ⟨rfl, hb5⟩
        rw [K5.out]
        rw [K6.out]
        have V5 := Lib.hid (V4.out.below (Nat.le_refl _) hb5)
        have R5 := Lib.hid (R4.out.below (Nat.le_refl _) hb5)
        have B5 := Lib.hid (below_chain B4.out hb5)
        clear hb5 B4 V4 R4
        go_wp2_with fail
        go_ret
        exact ⟨rfl, B5.out⟩
    · have K1 := Lib.hid (tt_no h)
      rw [K1.out, ifT_no h]
      clear h
      go_wp2_with fail
      go_ret
      exact ⟨rfl, B3.out⟩
  · have hd : 1048576 < n := by omega
    clear hb hab
    go_enter Try.func4, Try.ntmps4
    go_wp2
    go_ret
    exact ⟨rfl, Below.refl _ _⟩
end Go.Proofs.Ytbmkgkiochhdmaa
