/- The walk of the law FnLess: it answers true at every code that can be read. -/
import Derived.Test.YtbmkgkiochhdmaaDrawBidLess
import Derived.Test.YtbmkgkiochhdmaaBidLessF
import Derived.Test.YtbmkgkiochhdmaaSpecBidLess
import Derived.Test.YtbmkgkiochhdmaaBidBestF
import Derived.Test.YtbmkgkiochhdmaaFnBidModel
namespace Go.Proofs.Ytbmkgkiochhdmaa
set_option linter.unusedVariables false
open Go.RowKit

set_option maxHeartbeats 3200000 in
theorem fnLess_walk (n c : Nat) (a : Option Addr) (B : Nat → Nat) (w : World) (hc : n ≤ c) (hb : RdB w a n B) (hab : 0 < n → ∀ b o, a = some ⟨b, o, none⟩ → b < w.heap.size) :
    Calls Try.prog 7 #[.slice a n c] w fun e w' => e = .returned (.bool true) ∧ Below w.heap.size w w' := by
  by_cases hfit : n ≤ 1048576
  · have hd : ¬ (1048576 < n) := by omega
    have HD := Lib.hid (drawBidLess_any n c a B w hfit hc hb hab)
    clear hb hab
    go_enter Try.func7, Try.ntmps7
    go_wp2_with fail
    refine HD.out.mono ?_
    rintro e w1 ⟨ga, N, gc, A, L, C, Z, i, rfl, ⟨hN1, hN4, hgc⟩, ⟨hi0, hi1⟩, hL, hT, hb1⟩
    have V1 := Lib.hid hT
    have B1 := Lib.hid hb1
    have hn0 : N ≤ 1048576 := by omega
    have hii : I64 i := by unfold I64; omega
    have HL := Lib.hid (show ∀ r, r < N → L r ≤ 1048576 from fun r hr => by have := hL r hr; omega)
    clear hL hT hb1 HD
    go_wp2_with fail
    refine (bidLess_any N gc ga A L C Z i _ hn0 HL.out V1.out hii).mono ?_
    rintro e w2 ⟨rfl, hb2⟩
    have V2 := Lib.hid (V1.out.below (Nat.le_refl _) hb2)
    have B2 := Lib.hid (below_chain B1.out hb2)
    clear hb2 B1 V1
    go_wp2_with fail
    refine (specBidLess_any N gc ga A L C Z i _ hn0 HL.out V2.out hii).mono ?_
    rintro e w3 ⟨rfl, hb3⟩
    have V3 := Lib.hid (V2.out.below (Nat.le_refl _) hb3)
    have B3 := Lib.hid (below_chain B2.out hb3)
    clear hb3 B2 V2
    by_cases h : IsBids N L Z ∧ 0 ≤ i ∧ i < (L 0 : Int)
    · have K1 := Lib.hid (tt_of h)
      have K4 := Lib.hid (tt_of h.1)
      obtain ⟨j, rfl⟩ := Int.eq_ofNat_of_zero_le h.2.1
      have hj : j < L 0 := by have := h.2.2; omega
      have h2 := best_range h.1
      have h3 : 0 ≤ lessV N (L 0) Z j := mostT_nonneg _
      have h4 := less_le (n := N) (m := L 0) (Z := Z) hj
      obtain ⟨M, hM⟩ : ∃ M, M = rmax (fun r => Z r j) (N) := ⟨_, rfl⟩
      have h5 : bestV N (L 0) Z - M ≤ lessV N (L 0) Z j := less_near hj (by rw [hM]; exact rmax_nonneg _ _) (fun x hx => by rw [hM]; exact rmax_ge (f := (fun r => Z r j)) hx)
      have hM0 : 0 ≤ M := by rw [hM]; exact rmax_nonneg _ _
      have hM20 : M ≤ 20 := by rw [hM]; exact rmax_le _ (by omega) fun x hx => (h.1.cells x hx j hj).2
      obtain ⟨x, hx⟩ : ∃ x, x = lessV N (L 0) Z j := ⟨_, rfl⟩
      obtain ⟨y, hy⟩ : ∃ y, y = bestV N (L 0) Z := ⟨_, rfl⟩
      have K2 := Lib.hid (show ifT (IsBids N L Z ∧ 0 ≤ ((j : Nat) : Int) ∧ ((j : Nat) : Int) < (L 0 : Int)) (lessV N (L 0) Z ((j : Nat) : Int).toNat) = x by rw [hx]; exact ifT_yes h)
      have K3 := Lib.hid (show ifT (IsBids N L Z) (bestV N (L 0) Z) = y by rw [hy]; exact ifT_yes h.1)
      rw [← hx] at h3 h4 h5
      rw [← hy] at h2 h4 h5
      have HR := Lib.hid h.1.rows
      have hm1 := h.1.1.2.1
      have hm4 := h.1.1.2.2
      have HM := Lib.hid hM
      have d1 : decide (x ≤ y) = true := by simp; omega
      have d2 : decide (x ≥ y - M) = true := by simp; omega
      have e1 : wrap64 (y - M) = y - M := IntWalk.wrap64_in _ (by omega)
      rw [K1.out, K2.out]
      clear h hx hy hM h2 h3 h4 h5
      go_wp2_with fail
      refine (bidBest_any N gc ga A L C Z _ hn0 HL.out V3.out).mono ?_
      rintro e w4 ⟨rfl, hb4⟩
      rw [K3.out]
      rw [K4.out]
      have V4 := Lib.hid (V3.out.below (Nat.le_refl _) hb4)
      have B4 := Lib.hid (below_chain B3.out hb4)
      clear hb4 B3 V3
      have HV := Lib.hid (fun r (hr : r < N) => show ∃ ba oa br or, ga = some ⟨ba, oa, none⟩ ∧ w4.cell? ⟨ba, oa + r, none⟩ = some (.slice (some ⟨br, or, none⟩) (L 0) (C r)) ∧ w4.cell? ⟨br, or + j, none⟩ = some (.int .i64 (Z r j)) from by
        obtain ⟨ba, oa, e1, hca, hra⟩ := V4.out r hr
        rw [HR.out r hr] at hca hra
        obtain ⟨br, or', e2, hcx⟩ := hra j hj
        rw [e2] at hca
        exact ⟨ba, oa, br, or', e1, hca, hcx⟩)
      obtain ⟨l, hl⟩ : ∃ l, l = L 0 := ⟨_, rfl⟩
      rw [← hl] at HV hj hm1 hm4
      have hjl : (j : Int) < (l : Int) := by omega
      clear hl
      go_wp2
      go_loop [11, 12] (fun s x => ∃ k : Nat, k ≤ N ∧ x = .int .i64 k ∧ s = .int .i64 (rmax (fun r => Z r j) k)) (fun _ x => N - (intOf x).toNat)
      case atStart => exact ⟨0, Nat.zero_le _, rfl, rfl⟩
      case round =>
        obtain ⟨k, hk, rfl, rfl⟩ := hrel
        by_cases hlt : k < N
        · obtain ⟨ba, oa, br, or', rfl, hca, hck⟩ := HV.out k hlt
          have hkl : (k : Int) < (N : Int) := by omega
          obtain ⟨G, hG⟩ : ∃ G, G = rmax (fun r => Z r j) k := ⟨_, rfl⟩
          obtain ⟨u, hu⟩ : ∃ u, u = Z k j := ⟨_, rfl⟩
          have hn := Lib.hid (show rmax (fun r => Z r j) (k + 1) = max G u by rw [hG, hu]; rfl)
          rw [← hG]
          rw [← hu] at hck
          clear hG hu
          go_wp2
          go_round
          case rel => exact ⟨k + 1, by omega, by go_num, by rw [hn.out]⟩
          case measure => simp [intOf]; omega
        · obtain rfl : k = N := by omega
          rw [← HM.out]
          go_wp2
          go_ret
          exact ⟨rfl, B4.out⟩
    · have K1 := Lib.hid (tt_no h)
      rw [K1.out, ifT_no h]
      clear h
      go_wp2_with fail
      go_ret
      exact ⟨rfl, B3.out⟩
  · have hd : 1048576 < n := by omega
    clear hb hab
    go_enter Try.func7, Try.ntmps7
    go_wp2
    go_ret
    exact ⟨rfl, Below.refl _ _⟩
end Go.Proofs.Ytbmkgkiochhdmaa
