/- The model's RateIn: true exactly for a table of rates; nothing is written. -/
import Derived.Test.YtmjbocgoinfamaaL6In
import Derived.Test.YtmjbocgoinfamaaMem
namespace Go.Proofs.Ytmjbocgoinfamaa
set_option linter.unusedVariables false
open Go.RowKit

set_option maxHeartbeats 800000 in
theorem specRateIn_any (n c : Nat) (a : Option Addr) (A : Nat → Option Addr) (L C : Nat → Nat) (Z : Nat → Nat → Int) (w : World) (hn0 : n ≤ 1048576) (hL0 : ∀ r, r < n → L r ≤ 1048576) (ha0 : Tab w a n A L C Z) :
    Calls Try.prog 55 #[.slice a n c] w fun e w' => e = .returned (.bool (tt (IsRates n L Z))) ∧ w = w' := by
  have hn := hn0; have hL := hL0; have ha := ha0; clear hn0 hL0 ha0
  go_enter Try.func55, Try.ntmps55
  go_wp2
  go_loop [2, 3, 4] (fun r i _ => ∃ k : Nat, k ≤ n ∧ i = .int .i64 k ∧ r = .bool false ∧ (∀ i, i < k → L i = n ∧ ∀ k, k < n → (1 ≤ Z i k ∧ Z i k ≤ 144) ∧ (i = k → Z i k = 12))) (fun _ i _ => n - (intOf i).toNat)
  case atStart => exact ⟨0, Nat.zero_le _, rfl, rfl, fun j hj => absurd hj (Nat.not_lt_zero _)⟩
  case round =>
    obtain ⟨k, hk, rfl, rfl, hs⟩ := hrel
    by_cases hlt : k < n
    · obtain ⟨ba, oa, rfl, hca, hra⟩ := ha k hlt
      have hLk := hL k hlt
      have H1 := Lib.hid hs
      clear hs ha hL
      by_cases hln : L k = n
      · have hne : ((L k : Int) != (n : Int)) = false := by simp; omega
        have H3 := Lib.hid hln
        clear hln
        go_wp2
        go_loop [2, 4] (fun r i => ∃ j : Nat, j ≤ n ∧ i = .int .i64 j ∧ r = .bool false ∧ (∀ j', j' < j → (1 ≤ Z k j' ∧ Z k j' ≤ 144) ∧ (k = j' → Z k j' = 12))) (fun _ i => n - (intOf i).toNat)
        case atStart => exact ⟨0, Nat.zero_le _, rfl, rfl, fun j hj => absurd hj (Nat.not_lt_zero _)⟩
        case round =>
          obtain ⟨j, hj, rfl, rfl, hs⟩ := hrel
          by_cases hjlt : j < n
          · obtain ⟨bb, ob, hA, hcb⟩ := hra j (by have := H3.out; omega)
            rw [hA] at hca
            have hLj : j < L k := by have := H3.out; omega
            have H4 := Lib.hid hs
            have H5 := Lib.hid hA
            clear hs hra hA
            by_cases hin : InR (Z k j) 1 144
            · have B1 := tt_of hin
              by_cases hkj : k = j
              · subst hkj
                by_cases hz : Z k k = 12
                · have hb1 : (Z k k != 12) = false := by simp [hz]
                  have H6 := Lib.hid hz
                  have H7 := Lib.hid B1
                  clear hz B1
                  go_wp2_with (go_at_call 92; refine (l6In_any _ _ _ _).mono ?_; rintro e w' ⟨rfl, rfl⟩; rw [H7.out])
                  go_round
                  case rel =>
                    exact ⟨k + 1, by omega, by go_num, rfl, fun j' hj' => by
                      by_cases e : j' = k
                      · subst e; exact ⟨hin, fun _ => H6.out⟩
                      · exact H4.out j' (by omega)⟩
                  case measure => simp [intOf]; omega
                · have hb1 : (Z k k != 12) = true := by simp [hz]
                  have H7 := Lib.hid B1
                  clear B1
                  go_wp2_with (go_at_call 92; refine (l6In_any _ _ _ _).mono ?_; rintro e w' ⟨rfl, rfl⟩; rw [H7.out])
                  go_ret
                  exact ⟨by rw [tt_no (fun h => hz (((h.2 k hlt).2 k hlt).2 rfl))]; rfl, rfl⟩
              · have hb1 : ((k : Int) == (j : Int)) = false := by simp; omega
                have H7 := Lib.hid B1
                clear B1
                go_wp2_with (go_at_call 92; refine (l6In_any _ _ _ _).mono ?_; rintro e w' ⟨rfl, rfl⟩; rw [H7.out])
                go_round
                case rel =>
                  exact ⟨j + 1, by omega, by go_num, rfl, fun j' hj' => by
                    by_cases e : j' = j
                    · subst e; exact ⟨hin, fun e => absurd e hkj⟩
                    · exact H4.out j' (by omega)⟩
                case measure => simp [intOf]; omega
            · have H7 := Lib.hid (tt_no hin)
              go_wp2_with (go_at_call 92; refine (l6In_any _ _ _ _).mono ?_; rintro e w' ⟨rfl, rfl⟩; rw [H7.out])
              go_ret
              exact ⟨by rw [tt_no (fun h => hin (((h.2 k hlt).2 j hjlt).1))]; rfl, rfl⟩
          · have H4 := Lib.hid hs
            clear hs hra
            go_wp2
            go_round
            case rel =>
              exact ⟨k + 1, by omega, by go_num, rfl, fun i' hi' => by
                by_cases e : i' = k
                · subst e; exact ⟨H3.out, fun j' hj' => H4.out j' (by omega)⟩
                · exact H1.out i' (by omega)⟩
            case measure => simp [intOf]; omega
      · have hne : ((L k : Int) != (n : Int)) = true := by simp; omega
        go_wp2
        go_ret
        exact ⟨by rw [tt_no (fun h => hln (h.2 k hlt).1)]; rfl, rfl⟩
    · have H1 := Lib.hid hs
      obtain rfl : k = n := by omega
      clear hs ha hL
      go_wp2_with fail
      refine (l6In_any _ _ _ _).mono ?_
      rintro e w' ⟨rfl, rfl⟩
      go_wp2
      go_ret
      exact ⟨ret_bool (tt_congr (by unfold IsRates; constructor
                                    · intro h; exact ⟨by unfold InR at h; omega, H1.out⟩
                                    · intro h; have := h.1; unfold InR; omega)), rfl⟩

theorem specRateInTop_any (n c : Nat) (a : Option Addr) (A : Nat → Option Addr) (L C : Nat → Nat) (Z : Nat → Nat → Int) (w : World) (hn0 : n ≤ 1048576) (hL0 : ∀ r, r < n → L r ≤ 1048576) (ha0 : Tab w a n A L C Z) :
    Calls Try.prog 55 #[.slice a n c] w fun e w' => e = .returned (.bool (tt (IsRates n L Z))) ∧ Below w.heap.size w w' :=
  (specRateIn_any n c a A L C Z w hn0 hL0 ha0).mono fun e w' ⟨he, hw⟩ => ⟨he, hw ▸ Below.refl _ _⟩
end Go.Proofs.Ytmjbocgoinfamaa
