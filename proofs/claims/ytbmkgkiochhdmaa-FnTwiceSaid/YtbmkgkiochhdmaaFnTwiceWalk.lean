/- The walk of the law FnTwice: it answers true at every code that can be read. -/
import Derived.Test.YtbmkgkiochhdmaaDrawBidTwice
import Derived.Test.YtbmkgkiochhdmaaBidTwiceF
import Derived.Test.YtbmkgkiochhdmaaSpecBidTwice
import Derived.Test.YtbmkgkiochhdmaaBidBestF
import Derived.Test.YtbmkgkiochhdmaaBidLessF
import Derived.Test.YtbmkgkiochhdmaaFnBidModel
namespace Go.Proofs.Ytbmkgkiochhdmaa
set_option linter.unusedVariables false
open Go.RowKit

set_option maxHeartbeats 3200000 in
theorem fnTwice_walk (n c : Nat) (a : Option Addr) (B : Nat → Nat) (w : World) (hc : n ≤ c) (hb : RdB w a n B) (hab : 0 < n → ∀ b o, a = some ⟨b, o, none⟩ → b < w.heap.size) :
    Calls Try.prog 8 #[.slice a n c] w fun e w' => e = .returned (.bool true) ∧ Below w.heap.size w w' := by
  by_cases hfit : n ≤ 1048576
  · have hd : ¬ (1048576 < n) := by omega
    have HD := Lib.hid (drawBidTwice_any n c a B w hfit hc hb hab)
    clear hb hab
    go_enter Try.func8, Try.ntmps8
    go_wp2_with fail
    refine HD.out.mono ?_
    rintro e w1 ⟨ga, N, gc, A, L, C, Z, i, rfl, ⟨hN1, hN4, hgc⟩, ⟨hi0, hi1⟩, hL, hT, hb1⟩
    have V1 := Lib.hid hT
    have B1 := Lib.hid hb1
    have hn0 : N ≤ 1048576 := by omega
    have hii : I64 i := by unfold I64; omega
    have HL := Lib.hid (show ∀ r, r < N → L r ≤ 1048576 from fun r hr => by have := hL r hr; omega)
    clear hL hT hb1 HD
    go_wp2_with fail
    refine (bidTwice_any N gc ga A L C Z i _ hn0 HL.out V1.out hii).mono ?_
    rintro e w2 ⟨rfl, hb2⟩
    have V2 := Lib.hid (V1.out.below (Nat.le_refl _) hb2)
    have B2 := Lib.hid (below_chain B1.out hb2)
    clear hb2 B1 V1
    go_wp2_with fail
    refine (specBidTwice_any N gc ga A L C Z i _ hn0 HL.out V2.out hii).mono ?_
    rintro e w3 ⟨rfl, hb3⟩
    have V3 := Lib.hid (V2.out.below (Nat.le_refl _) hb3)
    have B3 := Lib.hid (below_chain B2.out hb3)
    clear hb3 B2 V2
    by_cases h : IsBids N L Z ∧ 0 ≤ i ∧ i < (L 0 : Int)
    · have K1 := Lib.hid (tt_of h)
      have K4 := Lib.hid (tt_of h.1)
      obtain ⟨j, rfl⟩ := Int.eq_ofNat_of_zero_le h.2.1
      have hj : j < L 0 := by have := h.2.2; omega
      have h1 := twice_range h.1 hj
      have h2 := best_range h.1
      have h3 := less_range0 h.1 hj
      have h4 := twice_least (n := N) (Z := Z) hj
      have h5 := twice_gain (n := N) (Z := Z) hj
      obtain ⟨x, hx⟩ : ∃ x, x = twiceV N (L 0) Z j := ⟨_, rfl⟩
      obtain ⟨y, hy⟩ : ∃ y, y = bestV N (L 0) Z := ⟨_, rfl⟩
      obtain ⟨z, hz⟩ : ∃ z, z = lessV N (L 0) Z j := ⟨_, rfl⟩
      have K2 := Lib.hid (show ifT (IsBids N L Z ∧ 0 ≤ ((j : Nat) : Int) ∧ ((j : Nat) : Int) < (L 0 : Int)) (twiceV N (L 0) Z ((j : Nat) : Int).toNat) = x by rw [hx]; exact ifT_yes h)
      have K3 := Lib.hid (show ifT (IsBids N L Z) (bestV N (L 0) Z) = y by rw [hy]; exact ifT_yes h.1)
      have K5 := Lib.hid (show ifT (IsBids N L Z ∧ 0 ≤ ((j : Nat) : Int) ∧ ((j : Nat) : Int) < (L 0 : Int)) (lessV N (L 0) Z ((j : Nat) : Int).toNat) = z by rw [hz]; exact ifT_yes h)
      rw [← hx] at h1 h4 h5
      rw [← hy] at h2 h3 h4 h5
      rw [← hz] at h3 h5
      have d1 : decide (x ≥ y) = true := by simp; omega
      have d2 : decide (x - y ≤ y - z) = true := by simp; omega
      have e1 : wrap64 (x - y) = x - y := IntWalk.wrap64_in _ (by omega)
      have e2 : wrap64 (y - z) = y - z := IntWalk.wrap64_in _ (by omega)
      rw [K1.out, K2.out]
      clear h hj hx hy hz h1 h2 h3 h4 h5
      go_wp2_with fail
      refine (bidBest_any N gc ga A L C Z _ hn0 HL.out V3.out).mono ?_
      rintro e w4 ⟨rfl, hb4⟩
      rw [K3.out]
      rw [K4.out]
      have V4 := Lib.hid (V3.out.below (Nat.le_refl _) hb4)
      have B4 := Lib.hid (below_chain B3.out hb4)
      clear hb4 B3 V3
      go_wp2_with fail
      refine (bidLess_any N gc ga A L C Z (j : Nat) _ hn0 HL.out V4.out hii).mono ?_
      rintro e w5 ⟨rfl, hb5⟩
      rw [K5.out]
      rw [K1.out]
      have V5 := Lib.hid (V4.out.below (Nat.le_refl _) hb5)
      have B5 := Lib.hid (below_chain B4.out hb5)
      clear hb5 B4 V4
      go_wp2_with fail
      go_ret
      exact ⟨rfl, B5.out⟩
    · have K1 := Lib.hid (tt_no h)
      rw [K1.out, ifT_no h]
      clear h
      go_wp2_with fail
      go_ret
      exact ⟨rfl, B3.out⟩
  · have hd : 1048576 < n := by omega
    clear hb hab
    go_enter Try.func8, Try.ntmps8
    go_wp2
    go_ret
    exact ⟨rfl, Below.refl _ _⟩
end Go.Proofs.Ytbmkgkiochhdmaa
