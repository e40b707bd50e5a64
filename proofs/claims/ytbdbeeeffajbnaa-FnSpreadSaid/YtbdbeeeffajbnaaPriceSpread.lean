/- The program's PriceSpread. -/
import Derived.Test.YtbdbeeeffajbnaaPriceModel
import Derived.Test.YtbdbeeeffajbnaaReadRates
import Derived.Test.YtbdbeeeffajbnaaSize
import Derived.Test.YtbdbeeeffajbnaaUnitAfter
import Derived.Test.YtbdbeeeffajbnaaBox
namespace Go.Proofs.Ytbdbeeeffajbnaa
set_option linter.unusedVariables false
open Go.RowKit

theorem unitAfter_two (w : World) : Calls Try.prog 90 #[.int .i64 2] w fun e w' => e = .returned (.int .i64 144) ∧ w = w' :=
  (unitAfter_any 2 w (by omega) (by omega)).mono fun e w' ⟨he, hw⟩ => ⟨by rw [he]; rfl, hw⟩

set_option maxHeartbeats 1600000 in
theorem priceSpread_any (n c : Nat) (a : Option Addr) (A : Nat → Option Addr) (L C : Nat → Nat) (Z : Nat → Nat → Int) (w : World) (hn0 : n ≤ 1048576) (hL0 : ∀ r, r < n → L r ≤ 1048576) (ha0 : Tab w a n A L C Z) :
    Calls Try.prog 45 #[.slice a n c] w fun e w' => e = .returned (.tuple #[.int .i64 (spreadAns n L Z), .bool (tt (IsRates n L Z))]) ∧ Below w.heap.size w w' := by
  have H1 := Lib.hid (readRates_any n c a A L C Z w hn0 hL0 ha0)
  clear ha0 hL0
  by_cases hr : IsRates n L Z
  · have T1 := Lib.hid (tt_of hr)
    have T2 := Lib.hid (spreadAns_yes hr)
    have HR := Lib.hid hr
    have HK := Lib.hid (Kept.of_rates hr)
    have h5 := hr.1.2
    clear hr
    go_enter Try.func45, Try.ntmps45
    go_wp2_with (first
      | (go_at_call 57; refine H1.out.mono ?_; rintro e w0 ⟨rfl, hb0⟩; rw [T1.out]; have B0 := Lib.hid hb0; clear hb0)
      | ((with_reducible refine arr_alloc 25 _ (Try.zeroRates _) ?_); intro w1 hA1 hs1 hb1; have B1 := Lib.hid (B0.out.trans (hb1.mono B0.out.size)); clear hs1 hb1)
      | ((with_reducible refine arr_store 25 _ _ _ _ _ _ (rateF n L Z) ?_ ?_ hA1 Try.sizeRates ?_); exact rfl; exact rfl; intro w2 hA2 hs2 ho2 hb2; have B2 := Lib.hid (B1.out.trans (hb2.mono B0.out.size)); clear hA1 hs2 ho2 hb2)
      | ((with_reducible refine arr_load 25 _ _ _ _ _ _ _ ?_ hA2 Try.underlying53 Try.sizeRates ?_); exact rfl)
      | (go_at_call 61; refine (size_any n _ _ HK.out).mono ?_; rintro e w3 ⟨rfl, hb3⟩; have A3 := Lib.hid (hA2.below hA2.lt hb3); have B3 := Lib.hid (B2.out.trans (hb3.mono B2.out.size)); clear hA2 hb3))
    go_loopw [6, 7, 8, 18] (fun r _ _ s wi => ∃ i : Nat, i ≤ n ∧ s = .int .i64 i ∧ r = .int .i64 (lossN Z i : Nat) ∧ ∃ q, wi = w3.drewN q) (fun _ _ _ s _ => n - (intOf s).toNat)
    case atStart => exact ⟨0, Nat.zero_le _, rfl, rfl, 0, rfl⟩
    case round =>
      obtain ⟨i, hi, rfl, rfl, q, rfl⟩ := hrel
      have hN := lossN_le Z i (by omega)
      obtain ⟨N, hN'⟩ : ∃ N, N = lossN Z i := ⟨_, rfl⟩
      rw [← hN'] at hN ⊢
      have QN := Lib.hid hN'
      clear hN'
      by_cases hlt : i < n
      · go_wp2
        go_loopw [6, 8, 22] (fun r _ s wi => ∃ j : Nat, j ≤ i ∧ s = .int .i64 j ∧ r = .int .i64 (N + lossI Z i j : Nat) ∧ ∃ q, wi = w3.drewN q) (fun _ _ s _ => i - (intOf s).toNat)
        case atStart => exact ⟨0, Nat.zero_le _, rfl, rfl, _, rfl⟩
        case round =>
          obtain ⟨j, hj, rfl, rfl, q, rfl⟩ := hrel
          have hM := lossI_le Z i j
          obtain ⟨M, hM'⟩ : ∃ M, M = N + lossI Z i j := ⟨_, rfl⟩
          have hM5 : M ≤ 5 * i + j := by omega
          rw [← hM']
          have QM := Lib.hid hM'
          clear hM' hM
          by_cases hjlt : j < i
          · have hjn : j < n := by omega
            have hc1 : w3.cell? ⟨w0.heap.size, j * 5 + i, none⟩ = some (.int .i64 (Z j i)) := by rw [← atF_rate HR.out hjn hlt]; exact A3.out.cell (j := j * 5 + i) (by omega)
            have hc2 : w3.cell? ⟨w0.heap.size, i * 5 + j, none⟩ = some (.int .i64 (Z i j)) := by rw [← atF_rate HR.out hlt hjn]; exact A3.out.cell (j := i * 5 + j) (by omega)
            have hp := rates_le HR.out hjn hlt
            have hp1 := hp.1
            have hp2 := hp.2
            have hi5 : (i : Int) < 5 := by omega
            have hj5 : (j : Int) < 5 := by omega
            clear hp
            by_cases hq : Z j i * Z i j < 144
            · have hd : decide (Z j i * Z i j < 144) = true := by simpa using hq
              have HQ := Lib.hid (show lossI Z i (j + 1) = lossI Z i j + 1 by show lossI Z i j + (decide (Z i j * Z j i < 144)).toNat = _; rw [Int.mul_comm, hd]; rfl)
              clear hq
              go_wp2
              go_quiet ((go_at_call 90; refine (unitAfter_two _).mono ?_; rintro e w'' ⟨rfl, rfl⟩; exact ⟨rfl, _, rfl⟩))
              go_wp2
              go_roundw
              case rel =>
                exact ⟨j + 1, by omega, by go_num, by rw [HQ.out, ← Nat.add_assoc, ← QM.out]; go_num, _, rfl⟩
              case measure => simp [intOf]; omega
            · have hd : decide (Z j i * Z i j < 144) = false := by simpa using hq
              have HQ := Lib.hid (show lossI Z i (j + 1) = lossI Z i j by show lossI Z i j + (decide (Z i j * Z j i < 144)).toNat = _; rw [Int.mul_comm, hd]; rfl)
              clear hq
              go_wp2
              go_quiet ((go_at_call 90; refine (unitAfter_two _).mono ?_; rintro e w'' ⟨rfl, rfl⟩; exact ⟨rfl, _, rfl⟩))
              go_wp2
              go_roundw
              case rel =>
                exact ⟨j + 1, by omega, by go_num, by rw [HQ.out, ← QM.out], _, rfl⟩
              case measure => simp [intOf]; omega
          · obtain rfl : j = i := by omega
            go_wp2
            go_roundw
            case rel =>
              exact ⟨j + 1, by omega, by go_num, by rw [QM.out, QN.out]; rfl, _, rfl⟩
            case measure => simp [intOf]; omega
      · obtain rfl : i = n := by omega
        go_wp2
        go_ret2
        exact ⟨by rw [T1.out, T2.out, ← QN.out]; rfl, below_chain B3.out (below_drewN (Below.refl _ _) _)⟩
  · have T1 := Lib.hid (tt_no hr)
    have T2 := Lib.hid (spreadAns_no hr)
    clear hr
    go_enter Try.func45, Try.ntmps45
    go_wp2_with (first
      | (go_at_call 57; refine H1.out.mono ?_; rintro e w0 ⟨rfl, hb0⟩; rw [T1.out]; have B0 := Lib.hid hb0; clear hb0)
      | ((with_reducible refine arr_alloc 25 _ (Try.zeroRates _) ?_); intro w1 hA1 hs1 hb1; have B1 := Lib.hid (B0.out.trans (hb1.mono B0.out.size)); clear hs1 hb1)
      | ((with_reducible refine arr_store 25 _ _ _ _ _ _ (rateF n L Z) ?_ ?_ hA1 Try.sizeRates ?_); exact rfl; exact rfl; intro w2 hA2 hs2 ho2 hb2; have B2 := Lib.hid (B1.out.trans (hb2.mono B0.out.size)); clear hA1 hs2 ho2 hb2))
    go_ret2
    exact ⟨by rw [T1.out, T2.out]; rfl, B2.out⟩
end Go.Proofs.Ytbdbeeeffajbnaa
