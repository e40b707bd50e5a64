/- The walk of the law FnRateFair: it answers true at every code that can be read. -/
import Derived.Test.YtakipaehoeapcaaDrawRateFair
import Derived.Test.YtakipaehoeapcaaRateFair
import Derived.Test.YtakipaehoeapcaaSpecRateFair
import Derived.Test.YtakipaehoeapcaaRateTurn
import Derived.Test.YtakipaehoeapcaaRateFirst
namespace Go.Proofs.Ytakipaehoeapcaa
set_option linter.unusedVariables false
set_option linter.unusedSimpArgs false
open Go.RowKit

theorem turn_rates {n : Nat} {L : Nat → Nat} {Z : Nat → Nat → Int} (h : IsRates n L Z) : IsRates n (fun _ => n) (turnX Z) :=
  ⟨h.1, fun i hi => ⟨rfl, fun k hk => ⟨((h.2 k hk).2 i hi).1, fun e => by subst e; exact ((h.2 i hi).2 i hi).2 rfl⟩⟩⟩
theorem fair_turn {n : Nat} {L : Nat → Nat} {Z : Nat → Nat → Int} (h : FairOk n L Z) : FairOk n (fun _ => n) (turnX Z) :=
  ⟨turn_rates h.1, fun i hi k hk => by
    show Z 0 i * Z k 0 = 12 * Z k i
    rw [Int.mul_comm]; exact h.2 k hk i hi⟩
theorem fair_pairs {n : Nat} {L : Nat → Nat} {Z : Nat → Nat → Int} (h : FairOk n L Z) : ∀ i, i < n → ∀ k, k < n → Z i k * Z k i = 144 := by
  have hr := h.1
  intro i hi k hk
  have h1 := h.2 i hi k hk
  have h2 := h.2 k hk i hi
  have h3 := mid_back hr h.2 hi
  have h4 := mid_back hr h.2 hk
  have h5 : (12 * 12) * (Z i k * Z k i) = 144 * 144 := by
    calc (12 * 12) * (Z i k * Z k i) = (12 * Z i k) * (12 * Z k i) := by ac_rfl
      _ = (Z i 0 * Z 0 k) * (Z k 0 * Z 0 i) := by rw [h1, h2]
      _ = (Z 0 i * Z i 0) * (Z 0 k * Z k 0) := by ac_rfl
      _ = 144 * 144 := by rw [h3, h4]
  omega
theorem fair_none {n : Nat} {L : Nat → Nat} {Z : Nat → Nat → Int} (h : FairOk n L Z) : (gaining n Z).length = 0 := by
  refine List.length_eq_zero_iff.2 (List.filter_eq_nil_iff.2 fun D hD => ?_)
  have hno : ¬ Gains n Z D := fun hg => by have := ring_mid h.1 h.2 hg.1; have h2 := hg.2; omega
  rw [tt_no hno]; simp

set_option maxHeartbeats 3200000 in
theorem fnRateFair_walk (n c : Nat) (a : Option Addr) (B : Nat → Nat) (w : World) (hc : n ≤ c) (hb : RdB w a n B) (hab : 0 < n → ∀ b o, a = some ⟨b, o, none⟩ → b < w.heap.size) :
    Calls Try.prog 5 #[.slice a n c] w fun e w' => e = .returned (.bool true) ∧ Below w.heap.size w w' := by
  by_cases hfit : n ≤ 1048576
  · have hd : ¬ (1048576 < n) := by omega
    have HD := Lib.hid (drawRateFair_any n c a B w hfit hc hb hab)
    clear hb hab
    go_enter Try.func5, Try.ntmps5
    go_wp2_with fail
    refine HD.out.mono ?_
    rintro e w1 ⟨ga, N, gc, A, L, C, Z, rfl, ⟨hN1, hN5⟩, hL, hT, hb1⟩
    have HT := Lib.hid hT
    have HL := Lib.hid (show ∀ r, r < N → L r ≤ 1048576 from fun r hr => by have := hL r hr; omega)
    have B1 := Lib.hid hb1
    clear hT hL hb1 HD
    go_wp2_with fail
    refine (rateFair_any N gc ga A L C Z _ (by omega) HL.out HT.out).mono ?_
    rintro e w2 ⟨rfl, hb2⟩
    have B2 := Lib.hid hb2
    clear hb2
    by_cases hr : FairOk N L Z
    · have K1 := Lib.hid (tt_of hr)
      have KR := Lib.hid (tt_of hr.1)
      have KN := Lib.hid (turnN_yes hr.1)
      have KT := Lib.hid (tt_of (fair_turn hr))
      have KP := Lib.hid (fair_pairs hr)
      have KL := Lib.hid (show ∀ i, i < N → L i = N from fun i hi => (hr.1.2 i hi).1)
      have KG := Lib.hid (tt_no (show ¬ 0 < gainN N L Z by rw [gainN_yes hr.1, fair_none hr]; omega))
      rw [K1.out]
      clear hr
      go_wp2_with fail
      refine (specRateFair_any N gc ga A L C Z _ (by omega) HL.out (HT.out.below (Nat.le_refl _) B2.out)).mono ?_
      rintro e w3 ⟨rfl, hb3⟩
      rw [K1.out]
      have B3 := Lib.hid (below_chain B2.out hb3)
      clear hb3
      go_wp2_with fail
      refine (rateTurn_any N gc ga A L C Z _ (by omega) HL.out (HT.out.below (Nat.le_refl _) B3.out)).mono ?_
      rintro e w4 ⟨ta, tc, tA, tC, rfl, hO4, hb4⟩
      rw [KR.out]
      have B4 := Lib.hid (below_chain B3.out hb4)
      rw [KN.out] at hO4 ⊢
      have T4 := Lib.hid hO4.tab
      have HT4 := Lib.hid (HT.out.below (Nat.le_refl _) B4.out)
      clear hO4
      clear hb4
      go_wp2
      go_loopw [2, 8, 9] (fun _ s _ wi => ∃ i : Nat, i ≤ N ∧ s = .int .i64 i ∧ ∃ q, wi = w4.drewN q) (fun _ s _ _ => N - (intOf s).toNat)
      case atStart => exact ⟨0, Nat.zero_le _, rfl, 0, rfl⟩
      case round =>
        obtain ⟨i, hi, rfl, q, rfl⟩ := hrel
        by_cases hilt : i < N
        · go_wp2
          go_loopw [9] (fun s wi => ∃ k : Nat, k ≤ N ∧ s = .int .i64 k ∧ ∃ q, wi = w4.drewN q) (fun s _ => N - (intOf s).toNat)
          case atStart => exact ⟨0, Nat.zero_le _, rfl, _, rfl⟩
          case round =>
            obtain ⟨k, hk, rfl, q2, rfl⟩ := hrel
            by_cases hklt : k < N
            · obtain ⟨b, o, hga, hci, hri⟩ := HT4.out i hilt
              obtain ⟨b', o', hgb, hck, hrk⟩ := HT4.out k hklt
              rw [hga] at hgb
              simp only [Option.some.injEq, Addr.mk.injEq] at hgb
              obtain ⟨rfl, rfl, -⟩ := hgb
              obtain ⟨b1, o1, hA1, hc1⟩ := hri k (by rw [KL.out i hilt]; exact hklt)
              obtain ⟨b2, o2, hA2, hc2⟩ := hrk i (by rw [KL.out k hklt]; exact hilt)
              have hp := KP.out i hilt k hklt
              rw [KL.out i hilt, hA1] at hci
              rw [KL.out k hklt, hA2] at hck
              subst hga
              clear hri hrk hA1 hA2
              go_wp2
              go_quiet (fail)
              go_wp2
              go_roundw
              case rel => exact ⟨k + 1, by omega, by go_num, _, by first | rfl | rw [World.drewN_drewN]⟩
              case measure => simp [intOf]; omega
            · obtain rfl : k = N := by omega
              go_wp2
              go_roundw
              case rel => exact ⟨i + 1, by omega, by go_num, _, rfl⟩
              case measure => simp [intOf]; omega
        · obtain rfl : i = N := by omega
          have B5 := Lib.hid (below_drewN B4.out q)
          go_wp2_with (first
            | (go_at_call 16; refine (rateGains_any i gc ga A L C Z _ (by omega) HL.out (HT4.out.drewN q)).mono ?_; rintro e w6 ⟨rfl, hb6⟩; rw [KG.out]; have B6 := Lib.hid hb6; clear hb6)
            | (go_at_call 27; refine (rateFair_any i tc _ _ _ _ _ _ (by omega) (fun _ _ => by show i ≤ _; omega) ((T4.out.drewN q).below (Nat.le_refl _) B6.out)).mono ?_; rintro e w7 ⟨rfl, hb7⟩; rw [KT.out]; have B7 := Lib.hid (below_chain B6.out hb7); clear hb7))
          go_ret
          exact ⟨rfl, below_chain B1.out (below_chain B5.out B7.out)⟩
    · have K1 := Lib.hid (tt_no hr)
      rw [K1.out]
      clear hr
      go_wp2_with fail
      refine (specRateFair_any N gc ga A L C Z _ (by omega) HL.out (HT.out.below (Nat.le_refl _) B2.out)).mono ?_
      rintro e w3 ⟨rfl, hb3⟩
      rw [K1.out]
      have B3 := Lib.hid (below_chain B2.out hb3)
      clear hb3
      go_wp2
      go_ret
      exact ⟨rfl, below_chain B1.out B3.out⟩
  · have hd : 1048576 < n := by omega
    clear hb hab
    go_enter Try.func5, Try.ntmps5
    go_wp2_with fail
    go_ret
    exact ⟨rfl, Below.refl _ _⟩
end Go.Proofs.Ytakipaehoeapcaa
