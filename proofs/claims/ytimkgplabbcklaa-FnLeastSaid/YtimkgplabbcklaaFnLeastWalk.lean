/- The walk of the law FnLeast: it answers true at every code that can be read. -/
import Derived.Test.YtimkgplabbcklaaDrawOddsLeast
import Derived.Test.YtimkgplabbcklaaOddsLeastF
import Derived.Test.YtimkgplabbcklaaSpecOddsLeast
import Derived.Test.YtimkgplabbcklaaOddsSumF
import Derived.Test.YtimkgplabbcklaaOddsFn
namespace Go.Proofs.Ytimkgplabbcklaa
set_option linter.unusedVariables false
open Go.RowKit

set_option maxRecDepth 100000 in
set_option maxHeartbeats 3200000 in
theorem fnLeast_walk (n c : Nat) (a : Option Addr) (B : Nat → Nat) (w : World) (hc : n ≤ c) (hb : RdB w a n B) (hab : 0 < n → ∀ b o, a = some ⟨b, o, none⟩ → b < w.heap.size) :
    Calls Try.prog 5 #[.slice a n c] w fun e w' => e = .returned (.bool true) ∧ Below w.heap.size w w' := by
  by_cases hfit : n ≤ 1048576
  · have hd : ¬ (1048576 < n) := by omega
    have HD := Lib.hid (drawOddsLeast_any n c a B w hfit hc hb hab)
    clear hb hab
    go_enter Try.func5, Try.ntmps5
    go_wp2_with fail
    refine HD.out.mono ?_
    rintro e w1 ⟨g, q, d, X, ab, q2, d2, Y, rfl, ⟨hq1, hq7, hqd⟩, hq27, hX, hY, hb1⟩
    have V1 := Lib.hid hX
    have Y1 := Lib.hid hY
    have B1 := Lib.hid hb1
    have hq0 : q ≤ 1048576 := by omega
    have hq20 : q2 ≤ 1048576 := by omega
    clear hX hY hb1 HD
    obtain ⟨ao, hao⟩ : ∃ ao : Option Addr, ao = some ⟨g, 0, none⟩ := ⟨_, rfl⟩
    rw [← hao] at V1 ⊢
    clear hao
    go_wp2_with fail
    refine (oddsLeast_all q d q2 d2 ao ab X Y _ hq0 V1.out hq20 Y1.out).mono ?_
    rintro e w2 ⟨rfl, hb2⟩
    have V2 := Lib.hid (V1.out.below (Nat.le_refl _) hb2)
    have Y2 := Lib.hid (Y1.out.below (Nat.le_refl _) hb2)
    have B2 := Lib.hid (below_chain B1.out hb2)
    clear hb2 B1 V1 Y1
    go_wp2_with fail
    refine (specOddsLeast_any q d q2 d2 ao ab X Y _ hq0 V2.out hq20 Y2.out).mono ?_
    rintro e w3 ⟨rfl, hb3⟩
    have V3 := Lib.hid (V2.out.below (Nat.le_refl _) hb3)
    have Y3 := Lib.hid (Y2.out.below (Nat.le_refl _) hb3)
    have B3 := Lib.hid (below_chain B2.out hb3)
    clear hb3 B2 V2 Y2
    by_cases h : StakedP q X q2 Y
    · have K1 := Lib.hid (tt_of h)
      have K4 := Lib.hid (leastA_yes h)
      have K5 := Lib.hid (stakedA_yes h)
      have hqe := h.1.2
      subst hqe
      have ho := h.1.1
      have K2 := Lib.hid (tt_of ho)
      have KT := Lib.hid (sumTop_yes ho)
      have KB := Lib.hid (sumBot_yes ho)
      have hST := least_sum h
      have hb1 := bot_pos (pieceS X q2)
      have hb2 := bot_le (pieceS X q2)
      have hs0 := sumR_range (m := q2) (Y := Y) h.2 (Nat.le_refl q2)
      have hs1 := hs0.1
      have hs2 : sumR Y q2 ≤ 7000000000 := by have := hs0.2; omega
      have ht0 := (leastR_range ho.2 h.2 (by omega) (Nat.le_refl q2)).1
      have LH := Lib.hid (fun k (hk : k < q2) => show leastR X Y q2 ≤ X k * Y k ∧ 0 ≤ X k * Y k ∧ X k * Y k ≤ 20000000000 from ⟨leastR_le hk, ret_range (ho.2 k hk) (h.2 k hk)⟩)
      obtain ⟨t, ht⟩ : ∃ t, t = leastR X Y q2 := ⟨_, rfl⟩
      obtain ⟨s, hs⟩ : ∃ s, s = sumR Y q2 := ⟨_, rfl⟩
      obtain ⟨T, hT⟩ : ∃ T, T = topN (pieceS X q2) := ⟨_, rfl⟩
      obtain ⟨l, hl⟩ : ∃ l, l = botN (pieceS X q2) := ⟨_, rfl⟩
      rw [← ht] at LH hST K4 ht0
      rw [← hs] at hST hs1 hs2 K5
      rw [← hT] at hST KT
      rw [← hl] at hST hb1 hb2 KB
      have hlc : LC = 232792560 := rfl
      have hp1 : 0 ≤ s * (l : Int) := Int.mul_nonneg hs1 (by omega)
      have hp2 : s * (l : Int) ≤ 7000000000 * 232792560 := Int.mul_le_mul hs2 (by omega) (by omega) (by omega)
      have hp3 : 0 ≤ t * (T : Int) := Int.mul_nonneg ht0 (by omega)
      have HST := Lib.hid hST
      rw [K4.out, K5.out, K1.out]
      clear h ho ht hs hT hl hST hs0 hlc hb1 hb2
      go_wp2_with fail
      refine (oddsSum_all q2 d ao X _ hq0 V3.out).mono ?_
      rintro e w4 ⟨rfl, hb4⟩
      rw [KT.out]
      rw [KB.out]
      rw [K2.out]
      have V4 := Lib.hid (V3.out.below (Nat.le_refl _) hb4)
      have Y4 := Lib.hid (Y3.out.below (Nat.le_refl _) hb4)
      have B4 := Lib.hid (below_chain B3.out hb4)
      clear hb4 B3 V3 Y3
      go_wp2
      go_loopw [14] (fun x wr => ∃ k u : Nat, k ≤ q2 ∧ x = .int .i64 k ∧ wr = w4.drewN u) (fun x _ => q2 - (intOf x).toNat)
      case atStart => exact ⟨0, 0, Nat.zero_le _, rfl, rfl⟩
      case round =>
        obtain ⟨k, u, hk, rfl, rfl⟩ := hrel
        by_cases hlt : k < q2
        · obtain ⟨h1, h2⟩ := LH.out k hlt
          obtain ⟨h2, hx3⟩ := h2
          obtain ⟨b0, o0, rfl, hc0⟩ := V4.out k hlt
          obtain ⟨x, hx0⟩ : ∃ x, x = X k := ⟨_, rfl⟩
          rw [← hx0] at hc0
          (try rw [← hx0] at h1)
          (try rw [← hx0] at hx3)
          (try rw [← hx0] at h2)
          clear hx0
          obtain ⟨b1, o1, rfl, hc1⟩ := Y4.out k hlt
          obtain ⟨y, hx1⟩ : ∃ y, y = Y k := ⟨_, rfl⟩
          rw [← hx1] at hc1
          (try rw [← hx1] at h1)
          (try rw [← hx1] at hx3)
          (try rw [← hx1] at h2)
          clear hx1
          have i1 : (0 : Int) ≤ (k : Int) := by omega
          have i2 : (k : Int) < (q2 : Int) := by omega
          have d1 : decide (x * y < t) = false := by simp; omega
          go_wp2
          go_quiet (fail)
          go_wp2
          go_roundw
          case rel => exact ⟨k + 1, _, by omega, by go_num, by first | rfl | rw [World.drewN_drewN]⟩
          case measure => simp [intOf]; omega
        · obtain rfl : k = q2 := by omega
          clear hk hlt
          have hq2' : t * (T : Int) ≤ 7000000000 * 232792560 := Int.le_trans HST.out hp2
          have d3 : decide (s * (l : Int) ≥ t * (T : Int)) = true := by simpa using HST.out
          have d4 : decide (t * (T : Int) ≤ s * (l : Int)) = true := by simpa using HST.out
          go_wp2
          go_ret
          exact ⟨rfl, below_drewN B4.out u⟩
    · have K1 := Lib.hid (tt_no h)
      rw [leastA_no h, stakedA_no h, K1.out]
      clear h
      go_wp2_with fail
      go_ret
      exact ⟨rfl, B3.out⟩
  · have hd : 1048576 < n := by omega
    clear hb hab
    go_enter Try.func5, Try.ntmps5
    go_wp2
    go_ret
    exact ⟨rfl, Below.refl _ _⟩
end Go.Proofs.Ytimkgplabbcklaa
