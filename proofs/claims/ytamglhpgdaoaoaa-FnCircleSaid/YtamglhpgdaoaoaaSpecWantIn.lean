/- The model's WantIn. -/
import Derived.Test.YtamglhpgdaoaoaaWantModel
import Derived.Test.YtamglhpgdaoaoaaL6In
import Derived.Test.YtamglhpgdaoaoaaSeq
import Derived.BigQuiet
import Derived.BigGuardPart
namespace Go.Proofs.Ytamglhpgdaoaoaa
set_option linter.unusedVariables false
set_option linter.unusedSimpArgs false
open Go.RowKit

set_option maxHeartbeats 800000 in
theorem specWantIn_any (n c : Nat) (a : Option Addr) (W : Nat → Int) (w : World) (hm0 : n ≤ 1048576) (hb0 : Rd w a n W) :
    Calls Try.prog 17 #[.slice a n c] w fun e w' => e = .returned (.bool (tt (IsWants n W))) ∧ Below w.heap.size w w' := by
  have HA := Lib.hid hb0
  clear hb0
  go_enter Try.func17, Try.ntmps17
  go_wp2
  go_loopw [3] (fun i wr => ∃ k : Nat, k ≤ n ∧ i = .int .i64 k ∧ (n ≤ 6 → ∀ j, j < k → 0 ≤ W j ∧ W j < (2 ^ n : Nat) ∧ WantsB W j j = false) ∧ Below w.heap.size w wr) (fun i _ => n - (intOf i).toNat)
  case atStart => exact ⟨0, Nat.zero_le _, rfl, fun _ j hj => absurd hj (Nat.not_lt_zero _), Below.refl _ _⟩
  case round =>
    obtain ⟨k, hk, rfl, hall, hB⟩ := hrel
    have HAll := Lib.hid hall
    have BR := Lib.hid hB
    clear hall hB
    by_cases hlt : k < n
    · obtain ⟨ba, oa, rfl, hca⟩ := (HA.out.below (Nat.le_refl _) BR.out) k hlt
      by_cases hin : InR (W k) 0 (wrap64 (wrap64 (2 ^ min n 64) - 1))
      · have B1 := Lib.hid (tt_of hin)
        have HI := Lib.hid hin
        obtain ⟨x, hx⟩ := Int.eq_ofNat_of_zero_le hin.1
        rw [hx] at hca B1
        have HX := Lib.hid hx
        clear hin hx
        cases hb : (bits .and .i64 ((x : Int) / 2 ^ min k 64) 1 == 1) with
        | true =>
          have hno := Lib.hid (show ¬ IsWants n W from fun h => by
            have h1 := h.lt hlt
            have h2 := (h.2 k hlt).2.2
            have h3 := HX.out
            unfold WantsB at h2
            rw [h3, Int.toNat_natCast] at h2
            have h4 := bit_has x k (by omega)
            rw [show min k 64 = k from by have := h.1.2; omega] at hb
            rw [hb, h2] at h4
            cases h4)
          have I1 := Lib.hid (fun W => (show Calls Try.prog 46 #[.int .i64 (x : Int), .int .i64 0, .int .i64 (wrap64 (wrap64 (2 ^ min n 64) - 1))] W fun e w' => e = .returned (.bool true) ∧ Below W.heap.size W w' from (l6In_any _ _ _ _).mono fun e w' ⟨h1, h2⟩ => ⟨by rw [h1, B1.out], by rw [← h2]; exact Below.refl _ _⟩))
          go_wp2
          have LC := later_cell hca
          refine wp_region_later (by kernel_rfl) (by kernel_rfl) ?_
          repeat go_big_quiet_step ((go_at_call 46; exact calls_later _ (I1.out _)))
          refine wpQuiet_nil ?_
          rintro _ ⟨r, rfl⟩
          have B2 := Lib.hid (BR.out.trans (r.h.mono BR.out.size))
          go_wp2
          go_ret
          exact ⟨by rw [tt_no hno.out]; rfl, B2.out⟩
        | false =>
          have HB := Lib.hid hb
          have I1 := Lib.hid (fun W => (show Calls Try.prog 46 #[.int .i64 (x : Int), .int .i64 0, .int .i64 (wrap64 (wrap64 (2 ^ min n 64) - 1))] W fun e w' => e = .returned (.bool true) ∧ Below W.heap.size W w' from (l6In_any _ _ _ _).mono fun e w' ⟨h1, h2⟩ => ⟨by rw [h1, B1.out], by rw [← h2]; exact Below.refl _ _⟩))
          go_wp2
          have LC := later_cell hca
          refine wp_region_later (by kernel_rfl) (by kernel_rfl) ?_
          repeat go_big_quiet_step ((go_at_call 46; exact calls_later _ (I1.out _)))
          refine wpQuiet_nil ?_
          rintro _ ⟨r, rfl⟩
          have B2 := Lib.hid (BR.out.trans (r.h.mono BR.out.size))
          go_wp2
          go_roundw
          case rel => exact ⟨k + 1, by omega, by go_num, fun h6 j hj => by
            by_cases e : j = k
            · subst e
              have h1 := HI.out
              rw [wants_top h6] at h1
              have hp := Nat.two_pow_pos n
              have hp6 : 2 ^ n ≤ 2 ^ 6 := Nat.pow_le_pow_right (by omega) h6
              have h3 := HX.out
              have b1 := h1.1
              have b2 := h1.2
              refine ⟨b1, by omega, ?_⟩
              unfold WantsB
              rw [h3, Int.toNat_natCast, ← bit_has x j (by omega)]
              have h5 := HB.out
              rw [show min j 64 = j from by omega] at h5
              exact h5
            · exact HAll.out h6 j (by omega), B2.out⟩
          case measure => simp [intOf]; omega
      · have B1 := Lib.hid (tt_no hin)
        have hno := Lib.hid (show ¬ IsWants n W from fun h => hin (by
          rw [wants_top h.1.2]
          have h1 := h.2 k hlt
          have hp := Nat.two_pow_pos n
          exact ⟨h1.1, by have := h1.2.1; omega⟩))
        clear hin
        have I1 := Lib.hid (fun W' => (show Calls Try.prog 46 #[.int .i64 (W k), .int .i64 0, .int .i64 (wrap64 (wrap64 (2 ^ min n 64) - 1))] W' fun e w' => e = .returned (.bool false) ∧ Below W'.heap.size W' w' from (l6In_any _ _ _ _).mono fun e w' ⟨h1, h2⟩ => ⟨by rw [h1, B1.out], by rw [← h2]; exact Below.refl _ _⟩))
        go_wp2
        have LC := later_cell hca
        refine wp_region_later (by kernel_rfl) (by kernel_rfl) ?_
        repeat go_big_quiet_step ((go_at_call 46; exact calls_later _ (I1.out _)))
        refine wpQuiet_nil ?_
        rintro _ ⟨r, rfl⟩
        have B2 := Lib.hid (BR.out.trans (r.h.mono BR.out.size))
        go_wp2
        go_ret
        exact ⟨by rw [tt_no hno.out]; rfl, B2.out⟩
    · obtain rfl : k = n := by omega
      have hiff := Lib.hid (show tt (InR (k : Int) 2 6) = tt (IsWants k W) from tt_congr ⟨fun h => ⟨⟨by have := h.1; omega, by have := h.2; omega⟩, HAll.out (by have := h.2; omega)⟩, fun h => ⟨by have := h.1.1; omega, by have := h.1.2; omega⟩⟩)
      go_wp2_with (go_at_call 46; refine (l6In_any _ _ _ _).mono ?_; rintro e w' ⟨rfl, rfl⟩; rw [hiff.out])
      go_ret
      exact ⟨rfl, BR.out⟩
end Go.Proofs.Ytamglhpgdaoaoaa
