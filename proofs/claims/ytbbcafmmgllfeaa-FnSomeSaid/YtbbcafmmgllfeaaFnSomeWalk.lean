/- The walk of the law FnSome: it answers true at every code that can be read. -/
import Derived.Test.YtbbcafmmgllfeaaDrawFairSome
import Derived.Test.YtbbcafmmgllfeaaFairSomeF
import Derived.Test.YtbbcafmmgllfeaaSpecFairSome
import Derived.Test.YtbbcafmmgllfeaaFairLowF
import Derived.Test.YtbbcafmmgllfeaaBidFirstF
import Derived.Test.YtbbcafmmgllfeaaFairInF
import Derived.Test.YtbbcafmmgllfeaaFnBidModel
namespace Go.Proofs.Ytbbcafmmgllfeaa
set_option linter.unusedVariables false
open Go.RowKit

set_option maxHeartbeats 3200000 in
theorem fnSome_walk (n c : Nat) (a : Option Addr) (B : Nat → Nat) (w : World) (hc : n ≤ c) (hb : RdB w a n B) (hab : 0 < n → ∀ b o, a = some ⟨b, o, none⟩ → b < w.heap.size) :
    Calls Try.prog 4 #[.slice a n c] w fun e w' => e = .returned (.bool true) ∧ Below w.heap.size w w' := by
  by_cases hfit : n ≤ 1048576
  · have hd : ¬ (1048576 < n) := by omega
    have HD := Lib.hid (drawFairSome_any n c a B w hfit hc hb hab)
    clear hb hab
    go_enter Try.func4, Try.ntmps4
    go_wp2_with fail
    refine HD.out.mono ?_
    rintro e w1 ⟨ga, N, gc, A, L, C, Z, b, q, d, P, rfl, ⟨hN1, hN4, hgc⟩, hq5, hL, hT, hP, hb1⟩
    have V1 := Lib.hid hT
    have P1 := Lib.hid hP
    have B1 := Lib.hid hb1
    have hn0 : N ≤ 1048576 := by omega
    have hq0 : q ≤ 1048576 := by omega
    have HL := Lib.hid (show ∀ r, r < N → L r ≤ 1048576 from fun r hr => by have := hL r hr; omega)
    clear hL hT hP hb1 HD
    go_wp2_with fail
    refine (fairSome_all N gc ga A L C Z q d b P _ hn0 HL.out V1.out hq0 P1.out).mono ?_
    rintro e w2 ⟨rfl, hb2⟩
    have V2 := Lib.hid (V1.out.below (Nat.le_refl _) hb2)
    have P2 := Lib.hid (P1.out.below (Nat.le_refl _) hb2)
    have B2 := Lib.hid (below_chain B1.out hb2)
    clear hb2 B1 V1 P1
    go_wp2_with fail
    refine (specFairSome_any N gc ga A L C Z q d b P _ hn0 HL.out V2.out hq0 P2.out).mono ?_
    rintro e w3 ⟨rfl, hb3⟩
    have V3 := Lib.hid (V2.out.below (Nat.le_refl _) hb3)
    have P3 := Lib.hid (P2.out.below (Nat.le_refl _) hb3)
    have B3 := Lib.hid (below_chain B2.out hb3)
    clear hb3 B2 V2 P2
    by_cases h : SomeOk N L Z q P
    · have K1 := Lib.hid (tt_of h)
      have K0 := Lib.hid (tt_of h.1.1)
      have K2 := Lib.hid (itemsN_yes h.1.1)
      have K3 := Lib.hid (firstN_yes h.1.1)
      obtain ⟨⟨hb, hp, hq⟩, hs⟩ := h
      have hp' : ∀ x, x < L 0 → 0 ≤ P x := fun x hx => (hp x (by rw [hq]; exact hx)).1
      obtain ⟨hfd, hfb⟩ := firstD_is hb
      have LH := Lib.hid (fun k (hk : k < q) => show lowP N (L 0) Z k ≤ P k ∧ P k ≤ highP N (L 0) Z k from some_range hp' hs (by rw [← hq]; exact hk))
      have K8 := Lib.hid (tt_of (show FairOk N L Z q P N (nth (firstD N (L 0) Z)) from ⟨⟨hb, hp, hq⟩, ⟨hfd, rfl⟩, some_best hp' hs hfd hfb⟩))
      rw [K1.out]
      clear hb hp hs hp' hfd hfb
      go_wp2_with fail
      refine (bidFirst_any N gc ga A L C Z _ hn0 HL.out V3.out).mono ?_
      rintro e w4 ⟨da, dc, rfl, hO4, hb4⟩
      rw [K3.out] at hO4 ⊢
      rw [K0.out]
      have D4 := Lib.hid hO4.rd
      have V4 := Lib.hid (V3.out.below (Nat.le_refl _) hb4)
      have P4 := Lib.hid (P3.out.below (Nat.le_refl _) hb4)
      have B4 := Lib.hid (below_chain B3.out hb4)
      clear hb4 B3 V3 P3
      clear hO4
      go_wp2_with fail
      refine (fairLow_any N gc ga A L C Z _ hn0 HL.out V4.out).mono ?_
      rintro e w5 ⟨fa, fc, rfl, hO5, hb5⟩
      rw [K2.out] at hO5 ⊢
      rw [K0.out]
      have F5 := Lib.hid hO5.rd
      have V5 := Lib.hid (V4.out.below (Nat.le_refl _) hb5)
      have P5 := Lib.hid (P4.out.below (Nat.le_refl _) hb5)
      have D5 := Lib.hid (D4.out.below (Nat.le_refl _) hb5)
      have B5 := Lib.hid (below_chain B4.out hb5)
      clear hb5 B4 V4 P4 D4
      clear hO5
      go_wp2_with fail
      refine (fairHigh_any N gc ga A L C Z _ hn0 HL.out V5.out).mono ?_
      rintro e w6 ⟨ha, hc, rfl, hO6, hb6⟩
      rw [K2.out] at hO6 ⊢
      rw [K0.out]
      have H6 := Lib.hid hO6.rd
      have V6 := Lib.hid (V5.out.below (Nat.le_refl _) hb6)
      have P6 := Lib.hid (P5.out.below (Nat.le_refl _) hb6)
      have D6 := Lib.hid (D5.out.below (Nat.le_refl _) hb6)
      have F6 := Lib.hid (F5.out.below (Nat.le_refl _) hb6)
      have B6 := Lib.hid (below_chain B5.out hb6)
      clear hb6 B5 V5 P5 D5 F5
      clear hO6
      rw [← hq] at F6 H6 D6 K8 LH ⊢
      clear hq K2
      go_wp2
      go_loopw [13] (fun x wr => ∃ k t : Nat, k ≤ q ∧ x = .int .i64 k ∧ wr = w6.drewN t) (fun x _ => q - (intOf x).toNat)
      case atStart => exact ⟨0, 0, Nat.zero_le _, rfl, rfl⟩
      case round =>
        obtain ⟨k, t, hk, rfl, rfl⟩ := hrel
        by_cases hlt : k < q
        · obtain ⟨h1, h2⟩ := LH.out k hlt
          obtain ⟨b0, o0, rfl, hc0⟩ := P6.out k hlt
          obtain ⟨z, hx0⟩ : ∃ z, z = P k := ⟨_, rfl⟩
          rw [← hx0] at hc0
          (try rw [← hx0] at h1)
          (try rw [← hx0] at h2)
          clear hx0
          obtain ⟨b1, o1, rfl, hc1⟩ := F6.out k hlt
          obtain ⟨x, hx1⟩ : ∃ x, x = lowP N q Z k := ⟨_, rfl⟩
          rw [← hx1] at hc1
          (try rw [← hx1] at h1)
          (try rw [← hx1] at h2)
          clear hx1
          obtain ⟨b2, o2, rfl, hc2⟩ := H6.out k hlt
          obtain ⟨y, hx2⟩ : ∃ y, y = highP N q Z k := ⟨_, rfl⟩
          rw [← hx2] at hc2
          (try rw [← hx2] at h1)
          (try rw [← hx2] at h2)
          clear hx2
          have i1 : (0 : Int) ≤ (k : Int) := by omega
          have i2 : (k : Int) < (q : Int) := by omega
          have d1 : decide (z < x) = false := by simp; omega
          have d2 : decide (z > y) = false := by simp; omega
          go_wp2
          go_quiet (fail)
          go_wp2
          go_roundw
          case rel => exact ⟨k + 1, _, by omega, by go_num, by first | rfl | rw [World.drewN_drewN]⟩
          case measure => simp [intOf]; omega
        · obtain rfl : k = q := by omega
          clear hk hlt
          go_wp2_with (go_at_call 8; refine (fairIn_all N gc ga A L C Z k d b P N dc da _ _ hn0 HL.out (V6.out.drewN t) hq0 (P6.out.drewN t) (by omega) (D6.out.drewN t)).mono ?_; rintro e w7 ⟨rfl, hb7⟩; rw [K8.out]; have B7 := Lib.hid (below_chain (below_drewN B6.out t) hb7); clear hb7)
          go_ret
          exact ⟨rfl, B7.out⟩
    · have K1 := Lib.hid (tt_no h)
      rw [K1.out]
      clear h
      go_wp2_with fail
      go_ret
      exact ⟨rfl, B3.out⟩
  · have hd : 1048576 < n := by omega
    clear hb hab
    go_enter Try.func4, Try.ntmps4
    go_wp2
    go_ret
    exact ⟨rfl, Below.refl _ _⟩
end Go.Proofs.Ytbbcafmmgllfeaa
