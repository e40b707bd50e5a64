/- The walk of the law FnDeals: it answers true at every code that can be read. -/
import Derived.Test.YtbmkgkiochhdmaaDrawBidDeals
import Derived.Test.YtbmkgkiochhdmaaBidDealsF
import Derived.Test.YtbmkgkiochhdmaaSpecBidDeals
import Derived.Test.YtbmkgkiochhdmaaBidFirstF
import Derived.Test.YtbmkgkiochhdmaaBidIsF
import Derived.Test.YtbmkgkiochhdmaaFnBidModel
namespace Go.Proofs.Ytbmkgkiochhdmaa
set_option linter.unusedVariables false
open Go.RowKit

set_option maxHeartbeats 3200000 in
theorem fnDeals_walk (n c : Nat) (a : Option Addr) (B : Nat → Nat) (w : World) (hc : n ≤ c) (hb : RdB w a n B) (hab : 0 < n → ∀ b o, a = some ⟨b, o, none⟩ → b < w.heap.size) :
    Calls Try.prog 9 #[.slice a n c] w fun e w' => e = .returned (.bool true) ∧ Below w.heap.size w w' := by
  by_cases hfit : n ≤ 1048576
  · have hd : ¬ (1048576 < n) := by omega
    have HD := Lib.hid (drawBidDeals_any n c a B w hfit hc hb hab)
    clear hb hab
    go_enter Try.func9, Try.ntmps9
    go_wp2_with fail
    refine HD.out.mono ?_
    rintro e w1 ⟨ga, N, gc, A, L, C, Z, rfl, ⟨hN1, hN4, hgc⟩, hL, hT, hb1⟩
    have V1 := Lib.hid hT
    have B1 := Lib.hid hb1
    have hn0 : N ≤ 1048576 := by omega
    have HL := Lib.hid (show ∀ r, r < N → L r ≤ 1048576 from fun r hr => by have := hL r hr; omega)
    clear hL hT hb1 HD
    go_wp2_with fail
    refine (bidDealsN_any N gc ga A L C Z _ hn0 HL.out V1.out).mono ?_
    rintro e w2 ⟨rfl, hb2⟩
    have V2 := Lib.hid (V1.out.below (Nat.le_refl _) hb2)
    have B2 := Lib.hid (below_chain B1.out hb2)
    clear hb2 B1 V1
    go_wp2_with fail
    refine (specBidDeals_any N gc ga A L C Z _ hn0 HL.out V2.out).mono ?_
    rintro e w3 ⟨rfl, hb3⟩
    have V3 := Lib.hid (V2.out.below (Nat.le_refl _) hb3)
    have B3 := Lib.hid (below_chain B2.out hb3)
    clear hb3 B2 V2
    by_cases h : IsBids N L Z
    · have K1 := Lib.hid (tt_of h)
      have hz1 := bests_pos (Z := Z) (dealsP_none (m := L 0) N)
      obtain ⟨z, hz⟩ : ∃ z, z = (bestsL N Z (dealsP (L 0) N)).length := ⟨_, rfl⟩
      rw [← hz] at hz1
      have hzd : decide ((z : Int) ≥ 1) = true := by simp; omega
      have hzd2 : decide (1 ≤ z) = true := by simp; omega
      have K2 := Lib.hid (show ifT (IsBids N L Z) ((bestsL N Z (dealsP (L 0) N)).length : Nat) = (z : Nat) by rw [hz]; exact ifT_yes h)
      have K3 := Lib.hid (firstN_yes h)
      have K4 := Lib.hid (tt_of (first_ok h))
      rw [K1.out, K2.out]
      clear h hz
      go_wp2_with fail
      refine (bidFirst_any N gc ga A L C Z _ hn0 HL.out V3.out).mono ?_
      rintro e w4 ⟨fa, fc, rfl, hO4, hb4⟩
      rw [K3.out] at hO4 ⊢
      rw [K1.out]
      have F4 := Lib.hid hO4.rd
      have V4 := Lib.hid (V3.out.below (Nat.le_refl _) hb4)
      have B4 := Lib.hid (below_chain B3.out hb4)
      clear hb4 B3 V3
      clear hO4
      go_wp2_with fail
      refine (bidIs_all N gc ga A L C Z N fc fa (nth (firstD N (L 0) Z)) _ hn0 HL.out V4.out (by omega) F4.out).mono ?_
      rintro e w5 ⟨rfl, hb5⟩
      rw [(show Hid (tt (DealOk N L Z N (nth (firstD N (L 0) Z)) ∧ dealT Z (nth (firstD N (L 0) Z)) N = bestV N (L 0) Z) = true) from K4).out]
      have V5 := Lib.hid (V4.out.below (Nat.le_refl _) hb5)
      have F5 := Lib.hid (F4.out.below (Nat.le_refl _) hb5)
      have B5 := Lib.hid (below_chain B4.out hb5)
      clear hb5 B4 V4 F4
      go_wp2_with fail
      go_ret
      exact ⟨rfl, B5.out⟩
    · have K1 := Lib.hid (tt_no h)
      rw [K1.out, ifT_no h]
      clear h
      go_wp2_with fail
      go_ret
      exact ⟨rfl, B3.out⟩
  · have hd : 1048576 < n := by omega
    clear hb hab
    go_enter Try.func9, Try.ntmps9
    go_wp2
    go_ret
    exact ⟨rfl, Below.refl _ _⟩
end Go.Proofs.Ytbmkgkiochhdmaa
