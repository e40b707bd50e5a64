/- The walk of the law FnLowSum: it answers true at every code that can be read. -/
import Derived.Test.YtbbcafmmgllfeaaDrawFairLow
import Derived.Test.YtbbcafmmgllfeaaFairLowF
import Derived.Test.YtbbcafmmgllfeaaSpecFairLow
import Derived.Test.YtbbcafmmgllfeaaBidBestF
import Derived.Test.YtbbcafmmgllfeaaSameInts
import Derived.Test.YtbbcafmmgllfeaaFnBidModel
namespace Go.Proofs.Ytbbcafmmgllfeaa
set_option linter.unusedVariables false
open Go.RowKit

set_option maxHeartbeats 3200000 in
theorem fnLowSum_walk (n c : Nat) (a : Option Addr) (B : Nat → Nat) (w : World) (hc : n ≤ c) (hb : RdB w a n B) (hab : 0 < n → ∀ b o, a = some ⟨b, o, none⟩ → b < w.heap.size) :
    Calls Try.prog 5 #[.slice a n c] w fun e w' => e = .returned (.bool true) ∧ Below w.heap.size w w' := by
  by_cases hfit : n ≤ 1048576
  · have hd : ¬ (1048576 < n) := by omega
    have HD := Lib.hid (drawFairLow_any n c a B w hfit hc hb hab)
    clear hb hab
    go_enter Try.func5, Try.ntmps5
    go_wp2_with fail
    refine HD.out.mono ?_
    rintro e w1 ⟨ga, N, gc, A, L, C, Z, rfl, ⟨hN1, hN4, hgc⟩, hL, hT, hb1⟩
    have V1 := Lib.hid hT
    have B1 := Lib.hid hb1
    have hn0 : N ≤ 1048576 := by omega
    have HL := Lib.hid (show ∀ r, r < N → L r ≤ 1048576 from fun r hr => by have := hL r hr; omega)
    clear hL hT hb1 HD
    go_wp2_with fail
    refine (fairLow_any N gc ga A L C Z _ hn0 HL.out V1.out).mono ?_
    rintro e w2 ⟨fa, fc, rfl, hO2, hb2⟩
    have F2 := Lib.hid hO2.rd
    have V2 := Lib.hid (V1.out.below (Nat.le_refl _) hb2)
    have B2 := Lib.hid (below_chain B1.out hb2)
    clear hb2 B1 V1
    clear hO2
    go_wp2_with fail
    refine (specFairLow_any N gc ga A L C Z _ hn0 HL.out V2.out).mono ?_
    rintro e w3 ⟨sa, sc, rfl, hO3, hb3⟩
    have S3 := Lib.hid hO3.rd
    have V3 := Lib.hid (V2.out.below (Nat.le_refl _) hb3)
    have F3 := Lib.hid (F2.out.below (Nat.le_refl _) hb3)
    have B3 := Lib.hid (below_chain B2.out hb3)
    clear hb3 B2 V2 F2
    clear hO3
    by_cases h : IsBids N L Z
    · have K1 := Lib.hid (tt_of h)
      have K2 := Lib.hid (itemsN_yes h)
      have hm4 := h.1.2.2
      obtain ⟨x, hx⟩ : ∃ x, x = bestV N (L 0) Z := ⟨_, rfl⟩
      have K5 := Lib.hid (show ifT (IsBids N L Z) (bestV N (L 0) Z) = x by rw [hx]; exact ifT_yes h)
      have LH := Lib.hid (fun k (hk : k ≤ L 0) => show (0 ≤ sumZ (lowP N (L 0) Z) k ∧ sumZ (lowP N (L 0) Z) k ≤ 20 * (k : Int)) ∧ 0 ≤ sumZ (highP N (L 0) Z) k ∧ sumZ (highP N (L 0) Z) k ≤ 20 * (k : Int) from ⟨sum_range k fun r hr => (low_item h.cells).1 r (by omega), sum_range k fun r hr => (high_item h.cells).1 r (by omega)⟩)
      have LR := Lib.hid (fun k (hk : k < L 0) => show (0 ≤ lowP N (L 0) Z k ∧ lowP N (L 0) Z k ≤ 20) ∧ 0 ≤ highP N (L 0) Z k ∧ highP N (L 0) Z k ≤ 20 from ⟨(low_item h.cells).1 k hk, (high_item h.cells).1 k hk⟩)
      have LS := Lib.hid (show sumZ (lowP N (L 0) Z) (L 0) ≤ x ∧ sumZ (highP N (L 0) Z) (L 0) ≤ x by rw [hx]; exact ⟨low_sum (by omega), high_sum _ _ _⟩)
      have SM := Lib.hid (tt_of (show SameB (L 0) (L 0) (lowP N (L 0) Z) (lowP N (L 0) Z) from ⟨rfl, fun _ _ => rfl⟩))
      rw [K2.out] at F3 S3
      rw [K1.out, K2.out]
      clear h hx
      go_wp2_with fail
      refine (sameInts_any (L 0) (L 0) fc sc _ _ _ _ _ (by omega) (by omega) F3.out S3.out).mono ?_
      rintro e w4 ⟨rfl, q4, rfl⟩
      rw [SM.out]
      have V4 := Lib.hid (V3.out.drewN q4)
      have F4 := Lib.hid (F3.out.drewN q4)
      have S4 := Lib.hid (S3.out.drewN q4)
      have B4 := Lib.hid (below_chain B3.out (below_drewN (Below.refl _ _) q4))
      clear B3 V3 F3 S3
      clear S4
      go_wp2_with fail
      refine (bidBest_any N gc ga A L C Z _ hn0 HL.out V4.out).mono ?_
      rintro e w5 ⟨rfl, hb5⟩
      rw [K5.out]
      rw [K1.out]
      have V5 := Lib.hid (V4.out.below (Nat.le_refl _) hb5)
      have F5 := Lib.hid (F4.out.below (Nat.le_refl _) hb5)
      have B5 := Lib.hid (below_chain B4.out hb5)
      clear hb5 B4 V4 F4
      go_wp2_with fail
      refine (fairHigh_any N gc ga A L C Z _ hn0 HL.out V5.out).mono ?_
      rintro e w6 ⟨ha, hc, rfl, hO6, hb6⟩
      rw [K2.out] at hO6 ⊢
      rw [K1.out]
      have H6 := Lib.hid hO6.rd
      have V6 := Lib.hid (V5.out.below (Nat.le_refl _) hb6)
      have F6 := Lib.hid (F5.out.below (Nat.le_refl _) hb6)
      have B6 := Lib.hid (below_chain B5.out hb6)
      clear hb6 B5 V5 F5
      clear hO6
      obtain ⟨m, hm⟩ : ∃ m, m = L 0 := ⟨_, rfl⟩
      rw [← hm] at F6 H6 LH LR LS hm4 ⊢
      clear hm K2
      go_wp2
      go_loop [12, 13, 14] (fun s1 s2 y => ∃ k : Nat, k ≤ m ∧ y = .int .i64 k ∧ s1 = .int .i64 (sumZ (lowP N m Z) k) ∧ s2 = .int .i64 (sumZ (highP N m Z) k)) (fun _ _ y => m - (intOf y).toNat)
      case atStart => exact ⟨0, Nat.zero_le _, rfl, rfl, rfl⟩
      case round =>
        obtain ⟨k, hk, rfl, rfl, rfl⟩ := hrel
        obtain ⟨hs1, hs2⟩ := LH.out k hk
        have E1 := Lib.hid (show sumZ (lowP N m Z) (k + 1) = sumZ (lowP N m Z) k + lowP N m Z k from rfl)
        have E2 := Lib.hid (show sumZ (highP N m Z) (k + 1) = sumZ (highP N m Z) k + highP N m Z k from rfl)
        by_cases hlt : k < m
        · obtain ⟨hr1, hr2⟩ := LR.out k hlt
          obtain ⟨b1, o1, rfl, hc1⟩ := F6.out k hlt
          obtain ⟨b2, o2, rfl, hc2⟩ := H6.out k hlt
          obtain ⟨S1, hS1⟩ : ∃ S1, S1 = sumZ (lowP N m Z) k := ⟨_, rfl⟩
          obtain ⟨S2, hS2⟩ : ∃ S2, S2 = sumZ (highP N m Z) k := ⟨_, rfl⟩
          obtain ⟨u, hu⟩ : ∃ u, u = lowP N m Z k := ⟨_, rfl⟩
          obtain ⟨v, hv⟩ : ∃ v, v = highP N m Z k := ⟨_, rfl⟩
          rw [← hS1, ← hu] at E1
          rw [← hS2, ← hv] at E2
          rw [← hS1] at hs1
          rw [← hS2] at hs2
          rw [← hS1, ← hS2]
          rw [← hu] at hc1 hr1
          rw [← hv] at hc2 hr2
          have hw1 : IntKind.i64.wrap (S1 + u) = S1 + u := by rw [IntKind.wrap_i64]; omega
          have hw2 : IntKind.i64.wrap (S2 + v) = S2 + v := by rw [IntKind.wrap_i64]; omega
          have i1 : (0 : Int) ≤ (k : Int) := by omega
          have i2 : (k : Int) < (m : Int) := by omega
          clear hS1 hS2 hu hv
          go_wp2
          go_round
          case rel => exact ⟨k + 1, by omega, by go_num, by rw [E1.out], by rw [E2.out]⟩
          case measure => simp [intOf]; omega
        · obtain rfl : k = m := by omega
          obtain ⟨l1, l2⟩ := LS.out
          obtain ⟨S1, hS1⟩ : ∃ S1, S1 = sumZ (lowP N k Z) k := ⟨_, rfl⟩
          obtain ⟨S2, hS2⟩ : ∃ S2, S2 = sumZ (highP N k Z) k := ⟨_, rfl⟩
          rw [← hS1] at l1 hs1
          rw [← hS2] at l2 hs2
          rw [← hS1, ← hS2]
          have d1 : decide (S1 ≤ x) = true := by simp; omega
          have d2 : decide (S2 ≤ x) = true := by simp; omega
          clear hS1 hS2 E1 E2
          go_wp2
          go_ret
          exact ⟨rfl, B6.out⟩
    · have K1 := Lib.hid (tt_no h)
      have K2 := Lib.hid (itemsN_no h)
      have SM := Lib.hid (tt_of (show SameB 0 0 (lowP N (L 0) Z) (lowP N (L 0) Z) from ⟨rfl, fun _ _ => rfl⟩))
      rw [K2.out] at F3 S3 ⊢
      rw [K1.out]
      clear h
      go_wp2_with fail
      refine (sameInts_any 0 0 fc sc _ _ _ _ _ (by omega) (by omega) F3.out S3.out).mono ?_
      rintro e w4 ⟨rfl, q4, rfl⟩
      rw [SM.out]
      have F4 := Lib.hid (F3.out.drewN q4)
      have S4 := Lib.hid (S3.out.drewN q4)
      clear F3 S3 V3
      go_wp2_with fail
      refine (sameInts_any 0 0 fc sc _ _ _ _ _ (by omega) (by omega) F4.out S4.out).mono ?_
      rintro e w5 ⟨rfl, q5, rfl⟩
      rw [SM.out]
      clear F4 S4
      go_wp2_with fail
      go_ret
      exact ⟨rfl, below_chain B3.out (below_drewN (Below.refl _ _) (q4 + q5))⟩
  · have hd : 1048576 < n := by omega
    clear hb hab
    go_enter Try.func5, Try.ntmps5
    go_wp2
    go_ret
    exact ⟨rfl, Below.refl _ _⟩
end Go.Proofs.Ytbbcafmmgllfeaa
