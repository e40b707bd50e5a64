/- The walk of the law FnStakes: it answers true at every code that can be read. -/
import Derived.Test.YtimkgplabbcklaaDrawOddsStakes
import Derived.Test.YtimkgplabbcklaaOddsStakesF
import Derived.Test.YtimkgplabbcklaaSpecOddsStakes
import Derived.Test.YtimkgplabbcklaaOddsLeastF
import Derived.Test.YtimkgplabbcklaaOddsSumF
import Derived.Test.YtimkgplabbcklaaSameInts
import Derived.Test.YtimkgplabbcklaaOddsFn
namespace Go.Proofs.Ytimkgplabbcklaa
set_option linter.unusedVariables false
open Go.RowKit

set_option maxRecDepth 100000 in
set_option maxHeartbeats 3200000 in
theorem fnStakes_walk (n c : Nat) (a : Option Addr) (B : Nat → Nat) (w : World) (hc : n ≤ c) (hb : RdB w a n B) (hab : 0 < n → ∀ b o, a = some ⟨b, o, none⟩ → b < w.heap.size) :
    Calls Try.prog 4 #[.slice a n c] w fun e w' => e = .returned (.bool true) ∧ Below w.heap.size w w' := by
  by_cases hfit : n ≤ 1048576
  · have hd : ¬ (1048576 < n) := by omega
    have HD := Lib.hid (drawOddsStakes_any n c a B w hfit hc hb hab)
    clear hb hab
    go_enter Try.func4, Try.ntmps4
    go_wp2_with fail
    refine HD.out.mono ?_
    rintro e w1 ⟨g, q, d, X, rfl, ⟨hq1, hq7, hqd⟩, hX, hb1⟩
    have V1 := Lib.hid hX
    have B1 := Lib.hid hb1
    have hq0 : q ≤ 1048576 := by omega
    clear hX hb1 HD
    obtain ⟨ao, hao⟩ : ∃ ao : Option Addr, ao = some ⟨g, 0, none⟩ := ⟨_, rfl⟩
    rw [← hao] at V1 ⊢
    clear hao
    go_wp2_with fail
    refine (oddsStakes_all q d ao X _ hq0 V1.out).mono ?_
    rintro e w2 ⟨fa, fc, rfl, hO2, hb2⟩
    have F2 := Lib.hid hO2.rd
    have V2 := Lib.hid (V1.out.below (Nat.le_refl _) hb2)
    have B2 := Lib.hid (below_chain B1.out hb2)
    clear hb2 B1 V1
    clear hO2
    go_wp2_with fail
    refine (specOddsStakes_any q d ao X _ hq0 V2.out).mono ?_
    rintro e w3 ⟨sa, sc, rfl, hO3, hb3⟩
    have S3 := Lib.hid hO3.rd
    have V3 := Lib.hid (V2.out.below (Nat.le_refl _) hb3)
    have F3 := Lib.hid (F2.out.below (Nat.le_refl _) hb3)
    have B3 := Lib.hid (below_chain B2.out hb3)
    clear hb3 B2 V2 F2
    clear hO3
    by_cases h : IsOdds q X
    · have K1 := Lib.hid (tt_of h)
      have K2 := Lib.hid (stakeN_yes h)
      have SM := Lib.hid (tt_of (show SameB q q (stakeF q X) (stakeF q X) from ⟨rfl, fun _ _ => rfl⟩))
      have K3 := Lib.hid (tt_of (staked h))
      have K4 := Lib.hid (leastA_yes (staked h))
      have K5 := Lib.hid (stakedA_yes (staked h))
      have KT := Lib.hid (sumTop_yes h)
      have KB := Lib.hid (sumBot_yes h)
      have hST := stake_sum h
      have hb1 := bot_pos (pieceS X q)
      have hb2 := bot_le (pieceS X q)
      have hs0 := sumR_range (m := q) (Y := stakeF q X) (fun j hj => (staked h).2 j hj) (Nat.le_refl q)
      have hs1 := hs0.1
      have hs2 : sumR (stakeF q X) q ≤ 7000000000 := by have := hs0.2; omega
      have LH := Lib.hid (fun k (hk : k < q) => show (1 ≤ stakeF q X k) ∧ X k * stakeF q X k = leastR X (stakeF q X) q ∧ (stakeF q X k ≤ 232792560 ∧ 1 ≤ X k ∧ X k ≤ 20) from ⟨(stake_range h k hk).1, by rw [least_stake h q (Nat.le_refl _)]; exact stake_back h k hk, (stake_range h k hk).2, h.2 k hk⟩)
      rw [← least_stake h q (Nat.le_refl _)] at hST
      obtain ⟨t, ht⟩ : ∃ t, t = leastR X (stakeF q X) q := ⟨_, rfl⟩
      obtain ⟨s, hs⟩ : ∃ s, s = sumR (stakeF q X) q := ⟨_, rfl⟩
      obtain ⟨T, hT⟩ : ∃ T, T = topN (pieceS X q) := ⟨_, rfl⟩
      obtain ⟨l, hl⟩ : ∃ l, l = botN (pieceS X q) := ⟨_, rfl⟩
      rw [← ht] at LH hST K4
      rw [← hs] at hST hs1 hs2 K5
      rw [← hT] at hST KT
      rw [← hl] at hST hb1 hb2 KB
      have hlc : LC = 232792560 := rfl
      have hp1 : 0 ≤ s * (l : Int) := Int.mul_nonneg hs1 (by omega)
      have hp2 : s * (l : Int) ≤ 7000000000 * 232792560 := Int.mul_le_mul hs2 (by omega) (by omega) (by omega)
      have HST := Lib.hid hST
      rw [K2.out] at F3 S3 ⊢
      rw [K1.out]
      clear h ht hs hT hl hST hs0 hlc hb1 hb2
      go_wp2_with fail
      refine (sameInts_any q q fc sc _ _ _ _ _ (by omega) (by omega) F3.out S3.out).mono ?_
      rintro e w4 ⟨rfl, q4, rfl⟩
      rw [SM.out]
      have V4 := Lib.hid (V3.out.drewN q4)
      have F4 := Lib.hid (F3.out.drewN q4)
      have S4 := Lib.hid (S3.out.drewN q4)
      have B4 := Lib.hid (below_chain B3.out (below_drewN (Below.refl _ _) q4))
      clear B3 V3 F3 S3
      clear S4
      go_wp2_with fail
      refine (oddsLeast_all q d q fc ao fa X (stakeF q X) _ hq0 V4.out hq0 F4.out).mono ?_
      rintro e w5 ⟨rfl, hb5⟩
      rw [K4.out]
      rw [K5.out]
      rw [K3.out]
      have V5 := Lib.hid (V4.out.below (Nat.le_refl _) hb5)
      have F5 := Lib.hid (F4.out.below (Nat.le_refl _) hb5)
      have B5 := Lib.hid (below_chain B4.out hb5)
      clear hb5 B4 V4 F4
      go_wp2_with fail
      refine (oddsSum_all q d ao X _ hq0 V5.out).mono ?_
      rintro e w6 ⟨rfl, hb6⟩
      rw [KT.out]
      rw [KB.out]
      rw [K1.out]
      have V6 := Lib.hid (V5.out.below (Nat.le_refl _) hb6)
      have F6 := Lib.hid (F5.out.below (Nat.le_refl _) hb6)
      have B6 := Lib.hid (below_chain B5.out hb6)
      clear hb6 B5 V5 F5
      go_wp2
      go_loopw [14] (fun x wr => ∃ k u : Nat, k ≤ q ∧ x = .int .i64 k ∧ wr = w6.drewN u) (fun x _ => q - (intOf x).toNat)
      case atStart => exact ⟨0, 0, Nat.zero_le _, rfl, rfl⟩
      case round =>
        obtain ⟨k, u, hk, rfl, rfl⟩ := hrel
        by_cases hlt : k < q
        · obtain ⟨h1, h2⟩ := LH.out k hlt
          obtain ⟨h2, hx3, hx4, hx5⟩ := h2
          obtain ⟨b0, o0, rfl, hc0⟩ := V6.out k hlt
          obtain ⟨x, hx0⟩ : ∃ x, x = X k := ⟨_, rfl⟩
          rw [← hx0] at hc0
          (try rw [← hx0] at h1)
          (try rw [← hx0] at hx4 hx5)
          (try rw [← hx0] at h2)
          clear hx0
          obtain ⟨b1, o1, rfl, hc1⟩ := F6.out k hlt
          obtain ⟨y, hx1⟩ : ∃ y, y = stakeF q X k := ⟨_, rfl⟩
          rw [← hx1] at hc1
          (try rw [← hx1] at h1)
          (try rw [← hx1] at hx3)
          (try rw [← hx1] at h2)
          clear hx1
          have i1 : (0 : Int) ≤ (k : Int) := by omega
          have i2 : (k : Int) < (q : Int) := by omega
          have hp3 : 0 ≤ x * y := Int.mul_nonneg (by omega) (by omega)
          have hp4 : x * y ≤ 20 * 232792560 := Int.mul_le_mul hx5 hx3 (by omega) (by omega)
          have hp3t := hp3
          have hp4t := hp4
          rw [h2] at hp3t hp4t
          have d1 : decide (y < 1) = false := by simp; omega
          have d2 : (x * y != t) = false := by simp [h2]
          have HX := Lib.hid h2
          clear h2
          go_wp2
          go_quiet (fail)
          go_wp2
          go_roundw
          case rel => exact ⟨k + 1, _, by omega, by go_num, by first | rfl | rw [World.drewN_drewN]⟩
          case measure => simp [intOf]; omega
        · obtain rfl : k = q := by omega
          clear hk hlt
          have HL := Lib.hid HST.out
          have hq1' : 0 ≤ t * (T : Int) := by rw [← HST.out]; exact hp1
          have hq2' : t * (T : Int) ≤ 7000000000 * 232792560 := by rw [← HST.out]; exact hp2
          have d3 : (s * (l : Int) == t * (T : Int)) = true := by rw [HST.out]; simp
          go_wp2
          go_ret
          exact ⟨rfl, below_drewN B6.out u⟩
    · have K1 := Lib.hid (tt_no h)
      have K2 := Lib.hid (stakeN_no h)
      have SM := Lib.hid (tt_of (show SameB 0 0 (stakeF q X) (stakeF q X) from ⟨rfl, fun _ _ => rfl⟩))
      rw [K2.out] at F3 S3 ⊢
      rw [K1.out]
      clear h
      go_wp2_with fail
      refine (sameInts_any 0 0 fc sc _ _ _ _ _ (by omega) (by omega) F3.out S3.out).mono ?_
      rintro e w4 ⟨rfl, q4, rfl⟩
      rw [SM.out]
      have F4 := Lib.hid (F3.out.drewN q4)
      have S4 := Lib.hid (S3.out.drewN q4)
      clear F3 S3 V3
      go_wp2_with fail
      refine (sameInts_any 0 0 fc sc _ _ _ _ _ (by omega) (by omega) F4.out S4.out).mono ?_
      rintro e w5 ⟨rfl, q5, rfl⟩
      rw [SM.out]
      clear F4 S4
      go_wp2_with fail
      go_ret
      exact ⟨rfl, below_chain B3.out (below_drewN (Below.refl _ _) (q4 + q5))⟩
  · have hd : 1048576 < n := by omega
    clear hb hab
    go_enter Try.func4, Try.ntmps4
    go_wp2
    go_ret
    exact ⟨rfl, Below.refl _ _⟩
end Go.Proofs.Ytimkgplabbcklaa
