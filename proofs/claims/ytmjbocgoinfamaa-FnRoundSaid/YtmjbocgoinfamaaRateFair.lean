/- The program's RateFair. -/
import Derived.Test.YtmjbocgoinfamaaByFiner
import Derived.Test.YtmjbocgoinfamaaLaterG
import Derived.Test.YtmjbocgoinfamaaRateFive
import Derived.Test.YtmjbocgoinfamaaSize
import Derived.Test.YtmjbocgoinfamaaFairModel
namespace Go.Proofs.Ytmjbocgoinfamaa
set_option linter.unusedVariables false
open Go.RowKit

theorem fairF_iff {n : Nat} {L : Nat → Nat} {Z : Nat → Nat → Int} (hr : IsRates n L Z) : SameF (byF (rateF n L Z) 0) (finF (rateF n L Z)) ↔ FairMid n Z := by
  have h2 := hr.1.1
  have h5 := hr.1.2
  have e : ∀ i, i < 5 → ∀ k, k < 5 → byF (rateF n L Z) 0 (i * 5 + k) = atF (rateF n L Z) i 0 * atF (rateF n L Z) 0 k := fun i hi k hk => by
    have e1 : (i * 5 + k) / 5 = i := by omega
    have e2 : (i * 5 + k) % 5 = k := by omega
    unfold byF; rw [e1, e2]
  constructor
  · intro h i hi k hk
    have h3 := h i (by omega) k (by omega)
    rw [e i (by omega) k (by omega), atF_rate hr hi (by omega), atF_rate hr (by omega) hk] at h3
    rw [h3, Int.mul_comm 12]
    show atF (rateF n L Z) i k * 12 = _
    rw [atF_rate hr hi hk]
  · intro h i hi k hk
    rw [e i hi k hk]
    show _ = atF (rateF n L Z) i k * 12
    by_cases hin : i < n ∧ k < n
    · rw [atF_rate hr hin.1 (by omega), atF_rate hr (by omega) hin.2, atF_rate hr hin.1 hin.2, h i hin.1 k hin.2, Int.mul_comm]
    · rw [rate_none hr i k hi hk (by omega)]
      by_cases hi' : i < n
      · rw [rate_none hr 0 k (by omega) hk (by omega)]; omega
      · rw [rate_none hr i 0 hi (by omega) (by omega)]; omega

set_option maxHeartbeats 1600000 in
theorem rateFair_any (n c : Nat) (a : Option Addr) (A : Nat → Option Addr) (L C : Nat → Nat) (Z : Nat → Nat → Int) (w : World) (hn0 : n ≤ 1048576) (hL0 : ∀ r, r < n → L r ≤ 1048576) (ha0 : Tab w a n A L C Z) :
    Calls Try.prog 23 #[.slice a n c] w fun e w' => e = .returned (.bool (tt (FairOk n L Z))) ∧ Below w.heap.size w w' := by
  have H1 := Lib.hid (readRates_any n c a A L C Z w hn0 hL0 ha0)
  clear hL0 ha0
  by_cases hr : IsRates n L Z
  · have T1 := Lib.hid (tt_of hr)
    have HF := Lib.hid (rate_five hr)
    have E := Lib.hid (show tt (FairOk n L Z) = tt (SameF (byF (rateF n L Z) 0) (finF (rateF n L Z))) from tt_congr ⟨fun h => (fairF_iff hr).2 h.2, fun h => ⟨hr, (fairF_iff hr).1 h⟩⟩)
    obtain ⟨F, hF⟩ : ∃ F, F = rateF n L Z := ⟨_, rfl⟩
    have QF := Lib.hid hF
    clear hr hF
    go_enter Try.func23, Try.ntmps23
    go_wp2_with (first
      | (go_at_call 52; refine H1.out.mono ?_; rintro e w0 ⟨rfl, hb0⟩; rw [T1.out, ← QF.out]; have B0 := Lib.hid hb0; clear hb0)
      | ((with_reducible refine arr_alloc 25 _ (Try.zeroRates _) ?_); intro w1 hA1 hs1 hb1; have B1 := Lib.hid (B0.out.trans (hb1.mono B0.out.size)); clear hs1 hb1)
      | ((with_reducible refine arr_store 25 _ _ _ _ _ _ F ?_ ?_ hA1 Try.sizeRates ?_); exact rfl; exact rfl; intro w2 hA2 hs2 ho2 hb2; have B2 := Lib.hid (B1.out.trans (hb2.mono B0.out.size)); clear hA1 hs2 ho2 hb2))
    have A2 := Lib.hid hA2
    clear hA2
    refine wp_region_later (by kernel_rfl) (by kernel_rfl) ?_
    repeat (first
      | ((with_reducible refine quiet_load_arr_g 25 _ _ _ 58 _ _ w0.heap.size F ?_ ?_ ?_ Try.underlying58 Try.sizeRates ?_); exact rfl; exact rfl; (rintro _ ⟨r, rfl⟩; exact later_arr A2.out r))
      | ((with_reducible refine quiet_eql_g _ _ _ _ _ _ _ _ ?_ ?_ ?_ ?_ (Try.eqlRates (byF F 0) (finF F)) ?_); exact rfl; exact rfl; exact rfl; kernel_rfl)
      | quiet_step ((first
          | (go_at_call 69; exact calls_later _ (by_any F 0 _ (by omega) (fun i k hi hk => by rw [QF.out]; exact HF.out i k hi hk)))
          | (go_at_call 70; exact calls_later _ (finer_any F _ (fun i k hi hk => by rw [QF.out]; exact HF.out i k hi hk))))))
    refine wpQuiet_nil ?_
    rintro _ ⟨r, rfl⟩
    go_wp2
    go_ret
    exact ⟨by rw [E.out, ← QF.out]; rfl, B2.out.trans (r.h.mono B2.out.size)⟩
  · have T1 := Lib.hid (tt_no hr)
    have E := Lib.hid (tt_no (show ¬ FairOk n L Z from fun h => hr h.1))
    clear hr
    go_enter Try.func23, Try.ntmps23
    go_wp2_with (first
      | (go_at_call 52; refine H1.out.mono ?_; rintro e w0 ⟨rfl, hb0⟩; rw [T1.out]; have B0 := Lib.hid hb0; clear hb0)
      | ((with_reducible refine arr_alloc 25 _ (Try.zeroRates _) ?_); intro w1 hA1 hs1 hb1; have B1 := Lib.hid (B0.out.trans (hb1.mono B0.out.size)); clear hs1 hb1)
      | ((with_reducible refine arr_store 25 _ _ _ _ _ _ (rateF n L Z) ?_ ?_ hA1 Try.sizeRates ?_); exact rfl; exact rfl; intro w2 hA2 hs2 ho2 hb2; have B2 := Lib.hid (B1.out.trans (hb2.mono B0.out.size)); clear hA1 hs2 ho2 hb2))
    go_quiet (fail)
    go_wp2
    go_ret
    exact ⟨by rw [E.out]; rfl, B2.out.trans ((below_drewN (Below.refl _ _) _).mono B2.out.size)⟩
end Go.Proofs.Ytmjbocgoinfamaa
