/- The walk of the law FnGainPays: it answers true at every code that can be read. -/
import Derived.Test.YtbbcafmmgllfeaaDrawFairPays
import Derived.Test.YtbbcafmmgllfeaaFairPaysF
import Derived.Test.YtbbcafmmgllfeaaSpecFairPays
import Derived.Test.YtbbcafmmgllfeaaFairLowF
import Derived.Test.YtbbcafmmgllfeaaBidBestF
import Derived.Test.YtbbcafmmgllfeaaFairGainF
import Derived.Test.YtbbcafmmgllfeaaBidWithoutF
import Derived.Test.YtbbcafmmgllfeaaSameInts
import Derived.Test.YtbbcafmmgllfeaaFnBidModel
namespace Go.Proofs.Ytbbcafmmgllfeaa
set_option linter.unusedVariables false
open Go.RowKit

set_option maxRecDepth 100000 in
set_option maxHeartbeats 3200000 in
theorem fnGainPays_walk (n c : Nat) (a : Option Addr) (B : Nat → Nat) (w : World) (hc : n ≤ c) (hb : RdB w a n B) (hab : 0 < n → ∀ b o, a = some ⟨b, o, none⟩ → b < w.heap.size) :
    Calls Try.prog 6 #[.slice a n c] w fun e w' => e = .returned (.bool true) ∧ Below w.heap.size w w' := by
  by_cases hfit : n ≤ 1048576
  · have hd : ¬ (1048576 < n) := by omega
    have HD := Lib.hid (drawFairPays_any n c a B w hfit hc hb hab)
    clear hb hab
    go_enter Try.func6, Try.ntmps6
    go_wp2_with fail
    refine HD.out.mono ?_
    rintro e w1 ⟨ga, N, gc, A, L, C, Z, rfl, ⟨hN1, hN4, hgc⟩, hL, hT, hb1⟩
    have V1 := Lib.hid hT
    have B1 := Lib.hid hb1
    have hn0 : N ≤ 1048576 := by omega
    have HL := Lib.hid (show ∀ r, r < N → L r ≤ 1048576 from fun r hr => by have := hL r hr; omega)
    clear hL hT hb1 HD
    go_wp2_with fail
    refine (fairPays_any N gc ga A L C Z _ hn0 HL.out V1.out).mono ?_
    rintro e w2 ⟨fa, fc, rfl, hO2, hb2⟩
    have F2 := Lib.hid hO2.rd
    have V2 := Lib.hid (V1.out.below (Nat.le_refl _) hb2)
    have B2 := Lib.hid (below_chain B1.out hb2)
    clear hb2 B1 V1
    clear hO2
    go_wp2_with fail
    refine (specFairPays_any N gc ga A L C Z _ hn0 HL.out V2.out).mono ?_
    rintro e w3 ⟨sa, sc, rfl, hO3, hb3⟩
    have S3 := Lib.hid hO3.rd
    have V3 := Lib.hid (V2.out.below (Nat.le_refl _) hb3)
    have F3 := Lib.hid (F2.out.below (Nat.le_refl _) hb3)
    have B3 := Lib.hid (below_chain B2.out hb3)
    clear hb3 B2 V2 F2
    clear hO3
    by_cases h : IsBids N L Z
    · have K1 := Lib.hid (tt_of h)
      have K2 := Lib.hid (itemsN_yes h)
      have K3 := Lib.hid (firstN_yes h)
      have hm4 := h.1.2.2
      obtain ⟨x, hx⟩ : ∃ x, x = bestV N (L 0) Z := ⟨_, rfl⟩
      have K5 := Lib.hid (show ifT (IsBids N L Z) (bestV N (L 0) Z) = x by rw [hx]; exact ifT_yes h)
      have LH := Lib.hid (fun k (hk : k < N) => show ∃ y : Int, (0 ≤ y ∧ y ≤ x ∧ x ≤ 80) ∧ tt (GainOk N L Z (L 0) (lowP N (L 0) Z) (k : Nat)) = true ∧ ifT (GainOk N L Z (L 0) (lowP N (L 0) Z) (k : Nat)) (gainM Z (lowP N (L 0) Z) ((k : Nat) : Int).toNat (L 0)) = x - y ∧ tt (IsBids N L Z ∧ 0 ≤ ((k : Nat) : Int) ∧ ((k : Nat) : Int) < (N : Int)) = true ∧ ifT (IsBids N L Z ∧ 0 ≤ ((k : Nat) : Int) ∧ ((k : Nat) : Int) < (N : Int)) (withoutV N (L 0) Z ((k : Nat) : Int).toNat) = y from by
        obtain ⟨D, hD, hb⟩ := best_is N (L 0) Z
        have ok1 : GainOk N L Z (L 0) (lowP N (L 0) Z) (k : Nat) := ⟨⟨h, low_item h.cells⟩, by omega, by omega⟩
        have ok2 : IsBids N L Z ∧ 0 ≤ ((k : Nat) : Int) ∧ ((k : Nat) : Int) < (N : Int) := ⟨h, by omega, by omega⟩
        have h1 := best_range h
        refine ⟨withoutV N (L 0) Z k, ⟨mostT_nonneg _, by rw [hx]; exact without_le hk, by rw [hx]; exact h1.2⟩, tt_of ok1, ?_, tt_of ok2, ?_⟩
        · rw [ifT_yes ok1, Int.toNat_natCast, hx]; exact gain_low hD hb (by omega) hk
        · rw [ifT_yes ok2, Int.toNat_natCast])
      have SM := Lib.hid (tt_of (show SameB N N (payB N (L 0) Z (nth (firstD N (L 0) Z))) (payB N (L 0) Z (nth (firstD N (L 0) Z))) from ⟨rfl, fun _ _ => rfl⟩))
      rw [K3.out] at F3 S3
      rw [K1.out, K3.out]
      clear h hx
      go_wp2_with fail
      refine (sameInts_any N N fc sc _ _ _ _ _ (by omega) (by omega) F3.out S3.out).mono ?_
      rintro e w4 ⟨rfl, q4, rfl⟩
      rw [SM.out]
      have V4 := Lib.hid (V3.out.drewN q4)
      have F4 := Lib.hid (F3.out.drewN q4)
      have S4 := Lib.hid (S3.out.drewN q4)
      have B4 := Lib.hid (below_chain B3.out (below_drewN (Below.refl _ _) q4))
      clear B3 V3 F3 S3
      clear S4
      clear F4
      go_wp2_with fail
      refine (fairLow_any N gc ga A L C Z _ hn0 HL.out V4.out).mono ?_
      rintro e w5 ⟨ga', gc', rfl, hO5, hb5⟩
      rw [K2.out] at hO5 ⊢
      rw [K1.out]
      have G5 := Lib.hid hO5.rd
      have V5 := Lib.hid (V4.out.below (Nat.le_refl _) hb5)
      have B5 := Lib.hid (below_chain B4.out hb5)
      clear hb5 B4 V4
      clear hO5
      go_wp2_with fail
      refine (bidBest_any N gc ga A L C Z _ hn0 HL.out V5.out).mono ?_
      rintro e w6 ⟨rfl, hb6⟩
      rw [K5.out]
      rw [K1.out]
      have V6 := Lib.hid (V5.out.below (Nat.le_refl _) hb6)
      have G6 := Lib.hid (G5.out.below (Nat.le_refl _) hb6)
      have B6 := Lib.hid (below_chain B5.out hb6)
      clear hb6 B5 V5 G5
      obtain ⟨m, hm⟩ : ∃ m, m = L 0 := ⟨_, rfl⟩
      rw [← hm] at G6 hm4 ⊢
      have QM := Lib.hid hm
      clear K2 hm
      go_wp2
      go_loopw [12, 13, 14, 15, 16] (fun y _ _ _ _ wr => ∃ k : Nat, k ≤ N ∧ y = .int .i64 k ∧ Below w6.heap.size w6 wr) (fun y _ _ _ _ _ => N - (intOf y).toNat)
      case atStart => exact ⟨0, Nat.zero_le _, rfl, Below.refl _ _⟩
      case round =>
        obtain ⟨k, hk, rfl, hB⟩ := hrel
        have BR := Lib.hid hB
        clear hB
        by_cases hlt : k < N
        · obtain ⟨y, ⟨hy0, hyx, hx80⟩, q1, q2, q3, q4⟩ := LH.out k hlt
          have hw1 : IntKind.i64.wrap (x - y) = x - y := by rw [IntKind.wrap_i64]; omega
          have HG := Lib.hid (fairGain_all N gc ga A L C Z m gc' ga' (lowP N m Z) (k : Nat) wr hn0 HL.out (V6.out.below (Nat.le_refl _) BR.out) (by omega) (G6.out.below (Nat.le_refl _) BR.out))
          have HW := Lib.hid (fun W (hW : Below wr.heap.size wr W) => bidWithout_any N gc ga A L C Z (k : Nat) W hn0 HL.out ((V6.out.below (Nat.le_refl _) BR.out).below (Nat.le_refl _) hW) (by unfold I64; omega))
          rw [QM.out] at HG
          rw [q1, q2] at HG
          rw [q3, q4] at HW
          clear q1 q2 q3 q4
          rw [← QM.out] at HG
          go_wp2_with (first
            | (go_at_call 24; refine HG.out.mono ?_; rintro e w7 ⟨rfl, hb7⟩; have B7 := Lib.hid hb7; clear hb7)
            | (go_at_call 25; refine (HW.out _ B7.out).mono ?_; rintro e w8 ⟨rfl, hb8⟩; have B8 := Lib.hid (BR.out.trans ((B7.out.trans (hb8.mono B7.out.size)).mono BR.out.size)); clear hb8))
          go_roundw
          case rel => exact ⟨k + 1, by omega, by go_num, B8.out⟩
          case measure => simp [intOf]; omega
        · obtain rfl : k = N := by omega
          go_wp2
          go_ret
          exact ⟨rfl, below_chain B6.out BR.out⟩
    · have K1 := Lib.hid (tt_no h)
      have K2 := Lib.hid (firstN_no h)
      have SM := Lib.hid (tt_of (show SameB 0 0 (payB N (L 0) Z (nth (firstD N (L 0) Z))) (payB N (L 0) Z (nth (firstD N (L 0) Z))) from ⟨rfl, fun _ _ => rfl⟩))
      rw [K2.out] at F3 S3 ⊢
      rw [K1.out]
      clear h
      go_wp2_with fail
      refine (sameInts_any 0 0 fc sc _ _ _ _ _ (by omega) (by omega) F3.out S3.out).mono ?_
      rintro e w4 ⟨rfl, q4, rfl⟩
      rw [SM.out]
      have F4 := Lib.hid (F3.out.drewN q4)
      have S4 := Lib.hid (S3.out.drewN q4)
      clear F3 S3 V3
      go_wp2_with fail
      refine (sameInts_any 0 0 fc sc _ _ _ _ _ (by omega) (by omega) F4.out S4.out).mono ?_
      rintro e w5 ⟨rfl, q5, rfl⟩
      rw [SM.out]
      clear F4 S4
      go_wp2_with fail
      go_ret
      exact ⟨rfl, below_chain B3.out (below_drewN (Below.refl _ _) (q4 + q5))⟩
  · have hd : 1048576 < n := by omega
    clear hb hab
    go_enter Try.func6, Try.ntmps6
    go_wp2
    go_ret
    exact ⟨rfl, Below.refl _ _⟩
end Go.Proofs.Ytbbcafmmgllfeaa
