/- The walk of the law FnWithout: it answers true at every code that can be read. -/
import Derived.Test.YtbmkgkiochhdmaaDrawBidWithout
import Derived.Test.YtbmkgkiochhdmaaBidWithoutF
import Derived.Test.YtbmkgkiochhdmaaSpecBidWithout
import Derived.Test.YtbmkgkiochhdmaaBidBestF
import Derived.Test.YtbmkgkiochhdmaaFnBidModel
namespace Go.Proofs.Ytbmkgkiochhdmaa
set_option linter.unusedVariables false
open Go.RowKit

set_option maxHeartbeats 3200000 in
theorem fnWithout_walk (n c : Nat) (a : Option Addr) (B : Nat → Nat) (w : World) (hc : n ≤ c) (hb : RdB w a n B) (hab : 0 < n → ∀ b o, a = some ⟨b, o, none⟩ → b < w.heap.size) :
    Calls Try.prog 6 #[.slice a n c] w fun e w' => e = .returned (.bool true) ∧ Below w.heap.size w w' := by
  by_cases hfit : n ≤ 1048576
  · have hd : ¬ (1048576 < n) := by omega
    have HD := Lib.hid (drawBidWithout_any n c a B w hfit hc hb hab)
    clear hb hab
    go_enter Try.func6, Try.ntmps6
    go_wp2_with fail
    refine HD.out.mono ?_
    rintro e w1 ⟨ga, N, gc, A, L, C, Z, i, rfl, ⟨hN1, hN4, hgc⟩, ⟨hi0, hi1⟩, hL, hT, hb1⟩
    have V1 := Lib.hid hT
    have B1 := Lib.hid hb1
    have hn0 : N ≤ 1048576 := by omega
    have hii : I64 i := by unfold I64; omega
    have HL := Lib.hid (show ∀ r, r < N → L r ≤ 1048576 from fun r hr => by have := hL r hr; omega)
    clear hL hT hb1 HD
    go_wp2_with fail
    refine (bidWithout_any N gc ga A L C Z i _ hn0 HL.out V1.out hii).mono ?_
    rintro e w2 ⟨rfl, hb2⟩
    have V2 := Lib.hid (V1.out.below (Nat.le_refl _) hb2)
    have B2 := Lib.hid (below_chain B1.out hb2)
    clear hb2 B1 V1
    go_wp2_with fail
    refine (specBidWithout_any N gc ga A L C Z i _ hn0 HL.out V2.out hii).mono ?_
    rintro e w3 ⟨rfl, hb3⟩
    have V3 := Lib.hid (V2.out.below (Nat.le_refl _) hb3)
    have B3 := Lib.hid (below_chain B2.out hb3)
    clear hb3 B2 V2
    by_cases h : IsBids N L Z ∧ 0 ≤ i ∧ i < (N : Int)
    · have K1 := Lib.hid (tt_of h)
      have K4 := Lib.hid (tt_of h.1)
      obtain ⟨j, rfl⟩ := Int.eq_ofNat_of_zero_le h.2.1
      have hj : j < N := by have := h.2.2; omega
      have h2 := best_range h.1
      have h3 : 0 ≤ withoutV N (L 0) Z j := mostT_nonneg _
      have h4 := without_le (n := N) (m := L 0) (Z := Z) hj
      obtain ⟨M, hM⟩ : ∃ M, M = rmax (Z j) (L 0) := ⟨_, rfl⟩
      have h5 : bestV N (L 0) Z - M ≤ withoutV N (L 0) Z j := without_near hj (by rw [hM]; exact rmax_nonneg _ _) (fun x hx => by rw [hM]; exact rmax_ge (f := (Z j)) hx)
      have hM0 : 0 ≤ M := by rw [hM]; exact rmax_nonneg _ _
      have hM20 : M ≤ 20 := by rw [hM]; exact rmax_le _ (by omega) fun x hx => (h.1.cells j hj x hx).2
      obtain ⟨x, hx⟩ : ∃ x, x = withoutV N (L 0) Z j := ⟨_, rfl⟩
      obtain ⟨y, hy⟩ : ∃ y, y = bestV N (L 0) Z := ⟨_, rfl⟩
      have K2 := Lib.hid (show ifT (IsBids N L Z ∧ 0 ≤ ((j : Nat) : Int) ∧ ((j : Nat) : Int) < (N : Int)) (withoutV N (L 0) Z ((j : Nat) : Int).toNat) = x by rw [hx]; exact ifT_yes h)
      have K3 := Lib.hid (show ifT (IsBids N L Z) (bestV N (L 0) Z) = y by rw [hy]; exact ifT_yes h.1)
      rw [← hx] at h3 h4 h5
      rw [← hy] at h2 h4 h5
      have HR := Lib.hid h.1.rows
      have hm1 := h.1.1.2.1
      have hm4 := h.1.1.2.2
      have HM := Lib.hid hM
      have d1 : decide (x ≤ y) = true := by simp; omega
      have d2 : decide (x ≥ y - M) = true := by simp; omega
      have e1 : wrap64 (y - M) = y - M := IntWalk.wrap64_in _ (by omega)
      rw [K1.out, K2.out]
      clear h hx hy hM h2 h3 h4 h5
      go_wp2_with fail
      refine (bidBest_any N gc ga A L C Z _ hn0 HL.out V3.out).mono ?_
      rintro e w4 ⟨rfl, hb4⟩
      rw [K3.out]
      rw [K4.out]
      have V4 := Lib.hid (V3.out.below (Nat.le_refl _) hb4)
      have B4 := Lib.hid (below_chain B3.out hb4)
      clear hb4 B3 V3
      obtain ⟨ba, oa, rfl, hca, hra⟩ := V4.out j hj
      rw [HR.out j hj] at hca hra
      have HRA := Lib.hid hra
      obtain ⟨l, hl⟩ : ∃ l, l = L 0 := ⟨_, rfl⟩
      rw [← hl] at hca HRA HM hm1 hm4
      have hjN : (j : Int) < (N : Int) := by omega
      obtain ⟨br, or', hAr, _⟩ := hra 0 (by omega)
      rw [hAr] at hca
      have HAr := Lib.hid hAr
      clear hra hl hAr
      go_wp2
      go_loop [11, 12] (fun s x => ∃ k : Nat, k ≤ l ∧ x = .int .i64 k ∧ s = .int .i64 (rmax (Z j) k)) (fun _ x => l - (intOf x).toNat)
      case atStart => exact ⟨0, Nat.zero_le _, rfl, rfl⟩
      case round =>
        obtain ⟨k, hk, rfl, rfl⟩ := hrel
        by_cases hlt : k < l
        · obtain ⟨bk, ok, e, hck⟩ := HRA.out k hlt
          rw [HAr.out] at e
          cases e
          have hkl : (k : Int) < (l : Int) := by omega
          obtain ⟨G, hG⟩ : ∃ G, G = rmax (Z j) k := ⟨_, rfl⟩
          obtain ⟨u, hu⟩ : ∃ u, u = Z j k := ⟨_, rfl⟩
          have hn := Lib.hid (show rmax (Z j) (k + 1) = max G u by rw [hG, hu]; rfl)
          rw [← hG]
          rw [← hu] at hck
          clear hG hu
          go_wp2
          go_round
          case rel => exact ⟨k + 1, by omega, by go_num, by rw [hn.out]⟩
          case measure => simp [intOf]; omega
        · obtain rfl : k = l := by omega
          rw [← HM.out]
          go_wp2
          go_ret
          exact ⟨rfl, B4.out⟩
    · have K1 := Lib.hid (tt_no h)
      rw [K1.out, ifT_no h]
      clear h
      go_wp2_with fail
      go_ret
      exact ⟨rfl, B3.out⟩
  · have hd : 1048576 < n := by omega
    clear hb hab
    go_enter Try.func6, Try.ntmps6
    go_wp2
    go_ret
    exact ⟨rfl, Below.refl _ _⟩
end Go.Proofs.Ytbmkgkiochhdmaa
