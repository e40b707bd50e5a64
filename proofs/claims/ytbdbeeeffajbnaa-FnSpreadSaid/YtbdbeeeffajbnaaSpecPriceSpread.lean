/- The model's PriceSpread. -/
import Derived.Test.YtbdbeeeffajbnaaPriceModel
import Derived.Test.YtbdbeeeffajbnaaSpecRateIn
namespace Go.Proofs.Ytbdbeeeffajbnaa
set_option linter.unusedVariables false
open Go.RowKit

set_option maxHeartbeats 1600000 in
theorem specPriceSpread_any (n c : Nat) (a : Option Addr) (A : Nat → Option Addr) (L C : Nat → Nat) (Z : Nat → Nat → Int) (w : World) (hn0 : n ≤ 1048576) (hL0 : ∀ r, r < n → L r ≤ 1048576) (ha0 : Tab w a n A L C Z) :
    Calls Try.prog 46 #[.slice a n c] w fun e w' => e = .returned (.tuple #[.int .i64 (spreadAns n L Z), .bool (tt (IsRates n L Z))]) ∧ Below w.heap.size w w' := by
  have H1 := Lib.hid (specRateIn_any n c a A L C Z w hn0 hL0 ha0)
  have HA := Lib.hid ha0
  clear ha0 hL0
  by_cases hr : IsRates n L Z
  · have T1 := Lib.hid (tt_of hr)
    have T2 := Lib.hid (spreadAns_yes hr)
    have HR := Lib.hid hr
    have h5 := hr.1.2
    clear hr
    go_enter Try.func46, Try.ntmps46
    go_wp2_with (go_at_call 16; refine H1.out.mono ?_; rintro e w1 ⟨rfl, rfl⟩; rw [T1.out])
    go_loopw [4, 5, 6] (fun r s _ wi => ∃ i : Nat, i ≤ n ∧ s = .int .i64 i ∧ r = .int .i64 (lossN Z i : Nat) ∧ ∃ q, wi = w.drewN q) (fun _ s _ _ => n - (intOf s).toNat)
    case atStart => exact ⟨0, Nat.zero_le _, rfl, rfl, 0, rfl⟩
    case round =>
      obtain ⟨i, hi, rfl, rfl, q, rfl⟩ := hrel
      have hN := lossN_le Z i (by omega)
      obtain ⟨N, hN'⟩ : ∃ N, N = lossN Z i := ⟨_, rfl⟩
      rw [← hN'] at hN ⊢
      have QN := Lib.hid hN'
      clear hN'
      by_cases hlt : i < n
      · go_wp2
        go_loopw [4, 6] (fun r s wi => ∃ j : Nat, j ≤ i ∧ s = .int .i64 j ∧ r = .int .i64 (N + lossI Z i j : Nat) ∧ ∃ q, wi = w.drewN q) (fun _ s _ => i - (intOf s).toNat)
        case atStart => exact ⟨0, Nat.zero_le _, rfl, rfl, _, rfl⟩
        case round =>
          obtain ⟨j, hj, rfl, rfl, q, rfl⟩ := hrel
          have hM := lossI_le Z i j
          obtain ⟨M, hM'⟩ : ∃ M, M = N + lossI Z i j := ⟨_, rfl⟩
          have hM5 : M ≤ 5 * i + j := by omega
          rw [← hM']
          have QM := Lib.hid hM'
          clear hM' hM
          by_cases hjlt : j < i
          · have hjn : j < n := by omega
            obtain ⟨ba, oa, rfl, hca, hra⟩ := HA.out i hlt
            have hLi : j < L i := by have := (HR.out.2 i hlt).1; omega
            obtain ⟨bc, oc, hAi, hcc⟩ := hra j hLi
            rw [hAi] at hca
            obtain ⟨ba2, oa2, hea, hca2, hra2⟩ := HA.out j hjn
            have hLj : i < L j := by have := (HR.out.2 j hjn).1; omega
            obtain ⟨bd, od, hAj, hcd⟩ := hra2 i hLj
            rw [hAj] at hca2
            cases hea
            have hp := rates_le HR.out hlt hjn
            have hp1 := hp.1
            have hp2 := hp.2
            clear hra hAi hra2 hAj hp
            by_cases hq : Z i j * Z j i < 144
            · have hd : decide (Z i j * Z j i < 144) = true := by simpa using hq
              have HQ := Lib.hid (show lossI Z i (j + 1) = lossI Z i j + 1 by show lossI Z i j + (decide (Z i j * Z j i < 144)).toNat = _; rw [hd]; rfl)
              clear hq
              go_wp2
              go_quiet (fail)
              go_wp2
              go_roundw
              case rel =>
                exact ⟨j + 1, by omega, by go_num, by rw [HQ.out, ← Nat.add_assoc, ← QM.out]; go_num, _, rfl⟩
              case measure => simp [intOf]; omega
            · have hd : decide (Z i j * Z j i < 144) = false := by simpa using hq
              have HQ := Lib.hid (show lossI Z i (j + 1) = lossI Z i j by show lossI Z i j + (decide (Z i j * Z j i < 144)).toNat = _; rw [hd]; rfl)
              clear hq
              go_wp2
              go_quiet (fail)
              go_wp2
              go_roundw
              case rel =>
                exact ⟨j + 1, by omega, by go_num, by rw [HQ.out, ← QM.out], _, rfl⟩
              case measure => simp [intOf]; omega
          · obtain rfl : j = i := by omega
            go_wp2
            go_roundw
            case rel =>
              exact ⟨j + 1, by omega, by go_num, by rw [QM.out, QN.out]; rfl, _, rfl⟩
            case measure => simp [intOf]; omega
      · obtain rfl : i = n := by omega
        go_wp2
        go_ret2
        exact ⟨by rw [T1.out, T2.out, ← QN.out]; rfl, below_drewN (Below.refl _ _) _⟩
  · have T1 := Lib.hid (tt_no hr)
    have T2 := Lib.hid (spreadAns_no hr)
    clear hr
    go_enter Try.func46, Try.ntmps46
    go_wp2_with (go_at_call 16; refine H1.out.mono ?_; rintro e w1 ⟨rfl, rfl⟩; rw [T1.out])
    go_ret2
    exact ⟨by rw [T1.out, T2.out]; rfl, Below.refl _ _⟩
end Go.Proofs.Ytbdbeeeffajbnaa
