/- The model's l2Holds and PriceHolds. -/
import Derived.Test.YtakipaehoeapcaaL2Both
namespace Go.Proofs.Ytakipaehoeapcaa
set_option linter.unusedVariables false
open Go.RowKit

set_option maxHeartbeats 1600000 in
theorem l2Holds_any (n c d : Nat) (a b : Option Addr) (A : Nat → Option Addr) (L C : Nat → Nat) (Z : Nat → Nat → Int) (W : Nat → Int) (w : World) (ho : BothOk n L Z n W) (ha : Tab w a n A L C Z) (hb : Rd w b n W) :
    Calls Try.prog 71 #[.slice a n c, .slice b n d] w fun e w' => e = .returned (.bool (tt (HoldsOk n L Z n W))) ∧ ∃ q, w' = w.drewN q := by
  have HO := Lib.hid ho
  have HA := Lib.hid ha
  have HB := Lib.hid hb
  have h5 := ho.1.1.1.2
  clear ho ha hb
  go_enter Try.func71, Try.ntmps71
  go_wp2
  go_loopw [4, 5, 6] (fun r s _ wi => ∃ i : Nat, i ≤ n ∧ s = .int .i64 i ∧ r = .bool false ∧ (∀ i', i' < i → ∀ k, k < n → Z i' k * W k ≤ 12 * W i') ∧ ∃ q, wi = w.drewN q) (fun _ s _ _ => n - (intOf s).toNat)
  case atStart => exact ⟨0, Nat.zero_le _, rfl, rfl, fun j hj => absurd hj (Nat.not_lt_zero _), 0, rfl⟩
  case round =>
    obtain ⟨i, hi, rfl, rfl, hall, q, rfl⟩ := hrel
    have G1 := Lib.hid hall
    clear hall
    by_cases hlt : i < n
    · go_wp2
      go_loopw [4, 6] (fun r s wi => ∃ j : Nat, j ≤ n ∧ s = .int .i64 j ∧ r = .bool false ∧ (∀ k, k < j → Z i k * W k ≤ 12 * W i) ∧ ∃ q, wi = w.drewN q) (fun _ s _ => n - (intOf s).toNat)
      case atStart => exact ⟨0, Nat.zero_le _, rfl, rfl, fun j hj => absurd hj (Nat.not_lt_zero _), _, rfl⟩
      case round =>
        obtain ⟨j, hj, rfl, rfl, hall, q, rfl⟩ := hrel
        have G2 := Lib.hid hall
        clear hall
        by_cases hjlt : j < n
        · obtain ⟨ba, oa, rfl, hca, hra⟩ := HA.out i hlt
          have hLi : j < L i := by have := (HO.out.1.1.2 i hlt).1; omega
          obtain ⟨bc, oc, hAi, hcc⟩ := hra j hLi
          rw [hAi] at hca
          obtain ⟨bb, ob, rfl, hcb⟩ := HB.out j hjlt
          have hcb2 : w.cell? ⟨bb, ob + i, none⟩ = some (.int .i64 (W i)) := by
            obtain ⟨b', o', he, hc'⟩ := HB.out i hlt
            cases he; exact hc'
          have hp := prod_le HO.out hlt hjlt
          have hp1 := hp.1
          have hp2 := hp.2
          have hw := HO.out.1.2.2 i hlt
          have hw1 := hw.1
          have hw2 := hw.2
          clear hra hAi hp hw
          by_cases hq : Z i j * W j ≤ 12 * W i
          · have hd : decide (12 * W i < Z i j * W j) = false := by simpa using hq
            have HQ := Lib.hid hq
            clear hq
            go_wp2
            go_quiet (fail)
            go_wp2
            go_roundw
            case rel =>
              exact ⟨j + 1, by omega, by go_num, rfl, fun k hk => by
                by_cases e : k = j
                · subst e; exact HQ.out
                · exact G2.out k (by omega), _, rfl⟩
            case measure => simp [intOf]; omega
          · have hd : decide (12 * W i < Z i j * W j) = true := by simpa using hq
            have hno := Lib.hid (tt_no (show ¬ HoldsOk n L Z n W from fun h => hq (h.2 i hlt j hjlt)))
            clear hq
            go_wp2
            go_quiet (fail)
            go_wp2
            go_ret
            exact ⟨by rw [hno.out]; rfl, q + nq, by rw [World.drewN_drewN]⟩
        · obtain rfl : j = n := by omega
          go_wp2
          go_roundw
          case rel =>
            exact ⟨i + 1, by omega, by go_num, rfl, fun i' hi' => by
              by_cases e : i' = i
              · subst e; exact G2.out
              · exact G1.out i' (by omega), _, rfl⟩
          case measure => simp [intOf]; omega
    · obtain rfl : i = n := by omega
      have hyes := Lib.hid (tt_of (show HoldsOk i L Z i W from ⟨HO.out, G1.out⟩))
      go_wp2
      go_ret
      exact ⟨by rw [hyes.out]; rfl, _, rfl⟩

set_option maxHeartbeats 800000 in
theorem specPriceHolds_any (n c m d : Nat) (a b : Option Addr) (A : Nat → Option Addr) (L C : Nat → Nat) (Z : Nat → Nat → Int) (W : Nat → Int) (w : World) (hn0 : n ≤ 1048576) (hL0 : ∀ r, r < n → L r ≤ 1048576) (ha0 : Tab w a n A L C Z) (hm1 : m ≤ 1048576) (hb1 : Rd w b m W) :
    Calls Try.prog 31 #[.slice a n c, .slice b m d] w fun e w' => e = .returned (.bool (tt (HoldsOk n L Z m W))) ∧ Below w.heap.size w w' := by
  have H1 := Lib.hid (l2Both_any n c m d a b A L C Z W w hn0 hL0 ha0 hm1 hb1)
  by_cases ho : BothOk n L Z m W
  · have T1 := Lib.hid (tt_of ho)
    obtain rfl := ho.2
    have H2 := Lib.hid (l2Holds_any n c d a b A L C Z W w ho ha0 hb1)
    clear ha0 hL0 hb1 ho
    go_enter Try.func31, Try.ntmps31
    go_wp2_with (first
      | (go_at_call 70; refine H1.out.mono ?_; rintro e w1 ⟨rfl, rfl⟩; rw [T1.out])
      | (go_at_call 71; refine H2.out.mono ?_; rintro e w1 ⟨rfl, q, rfl⟩))
    go_ret
    exact ⟨rfl, below_drewN (Below.refl _ _) _⟩
  · have T1 := Lib.hid (tt_no ho)
    have T2 := Lib.hid (tt_no (show ¬ HoldsOk n L Z m W from fun h => ho h.1))
    clear ha0 hL0 hb1 ho
    go_enter Try.func31, Try.ntmps31
    go_wp2_with (go_at_call 70; refine H1.out.mono ?_; rintro e w1 ⟨rfl, rfl⟩; rw [T1.out])
    go_ret
    exact ⟨by rw [T2.out]; rfl, Below.refl _ _⟩
end Go.Proofs.Ytakipaehoeapcaa
