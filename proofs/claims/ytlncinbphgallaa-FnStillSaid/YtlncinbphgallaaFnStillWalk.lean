/- The walk of the law FnStill: it answers true at every code that can be read. -/
import Derived.Test.YtlncinbphgallaaDrawSwapStill
import Derived.Test.YtlncinbphgallaaSwapStill
import Derived.Test.YtlncinbphgallaaSpecSwapStill
import Derived.Test.YtlncinbphgallaaSwapMay
namespace Go.Proofs.Ytlncinbphgallaa
set_option linter.unusedVariables false
set_option linter.unusedSimpArgs false
open Go.RowKit

set_option maxHeartbeats 3200000 in
theorem fnStill_walk (n c : Nat) (a : Option Addr) (B : Nat → Nat) (w : World) (hc : n ≤ c) (hb : RdB w a n B) (hab : 0 < n → ∀ b o, a = some ⟨b, o, none⟩ → b < w.heap.size) :
    Calls Try.prog 13 #[.slice a n c] w fun e w' => e = .returned (.bool true) ∧ Below w.heap.size w w' := by
  by_cases hfit : n ≤ 1048576
  · have hd : ¬ (1048576 < n) := by omega
    have HD := Lib.hid (drawSwapStill_any n c a B w hfit hc hb hab)
    clear hb hab
    go_enter Try.func13, Try.ntmps13
    go_wp2_with fail
    refine HD.out.mono ?_
    rintro e w1 ⟨ga, N, gc, A, L, C, Z, b, m, d, X, rfl, ⟨⟨hN1, hN5⟩, hmd, hm6⟩, hL, hT, hX, hb1⟩
    have HT := Lib.hid hT
    have HX := Lib.hid hX
    have HL := Lib.hid (show ∀ r, r < N → L r ≤ 1048576 from fun r hr => by have := hL r hr; omega)
    have B1 := Lib.hid hb1
    clear hT hX hL hb1 HD
    by_cases hok : StillOk N L Z m X
    · have K1 := Lib.hid (tt_of hok)
      have KM := Lib.hid (show ∀ i k : Nat, i < N → k < N → tt (SwapMayOk N L Z m X i k) = false from fun i k hi hk => tt_no (fun h => hok.2 i k hi hk h.2))
      clear hok
      go_wp2_with (first
        | (go_at_call 31; refine (swapStill_any N gc ga A L C Z m d b X _ (by omega) HL.out HT.out (by omega) hmd HX.out).mono ?_; rintro e w2 ⟨rfl, hb2⟩; rw [K1.out]; have B2 := Lib.hid hb2; clear hb2)
        | (go_at_call 30; refine (specSwapStill_any N gc ga A L C Z m d b X _ (by omega) HL.out (HT.out.below (Nat.le_refl _) B2.out) (by omega) (HX.out.below (Nat.le_refl _) B2.out)).mono ?_; rintro e w3 ⟨rfl, hb3⟩; rw [K1.out]; have B3 := Lib.hid (below_chain B2.out hb3); clear hb3))
      go_loopw [7, 8] (fun s _ wr => ∃ i : Nat, i ≤ N ∧ s = .int .i64 i ∧ Below w1.heap.size w1 wr) (fun s _ _ => N - (intOf s).toNat)
      case atStart => exact ⟨0, Nat.zero_le _, rfl, B3.out⟩
      case round =>
        obtain ⟨i, hi, rfl, hB⟩ := hrel
        have BR := Lib.hid hB
        clear hB B3
        by_cases hlt : i < N
        · go_wp2
          go_loopw [8] (fun s wr => ∃ k : Nat, k ≤ N ∧ s = .int .i64 k ∧ Below w1.heap.size w1 wr) (fun s _ => N - (intOf s).toNat)
          case atStart => exact ⟨0, Nat.zero_le _, rfl, BR.out⟩
          case round =>
            obtain ⟨k, hk, rfl, hB⟩ := hrel
            have BQ := Lib.hid hB
            clear hB BR
            by_cases hkn : k < N
            · have K2 := Lib.hid (KM.out i k hlt hkn)
              go_wp2_with (go_at_call 19; refine (swapMay_any N gc ga A L C Z m d b X i k _ (by omega) HL.out (HT.out.below (Nat.le_refl _) BQ.out) (by omega) hmd (HX.out.below (Nat.le_refl _) BQ.out) ⟨by omega, by omega⟩ ⟨by omega, by omega⟩).mono ?_; rintro e w5 ⟨rfl, hb5⟩; rw [K2.out]; have B5 := Lib.hid (below_chain BQ.out hb5); clear hb5)
              go_roundw
              case rel => exact ⟨k + 1, by omega, by go_num, B5.out⟩
              case measure => simp [intOf]; omega
            · obtain rfl : k = N := by omega
              go_wp2
              go_roundw
              case rel => exact ⟨i + 1, by omega, by go_num, BQ.out⟩
              case measure => simp [intOf]; omega
        · obtain rfl : i = N := by omega
          go_wp2
          go_ret
          exact ⟨by first | rfl | simp, below_chain B1.out BR.out⟩
    · have K1 := Lib.hid (tt_no hok)
      clear hok
      go_wp2_with (first
        | (go_at_call 31; refine (swapStill_any N gc ga A L C Z m d b X _ (by omega) HL.out HT.out (by omega) hmd HX.out).mono ?_; rintro e w2 ⟨rfl, hb2⟩; rw [K1.out]; have B2 := Lib.hid hb2; clear hb2)
        | (go_at_call 30; refine (specSwapStill_any N gc ga A L C Z m d b X _ (by omega) HL.out (HT.out.below (Nat.le_refl _) B2.out) (by omega) (HX.out.below (Nat.le_refl _) B2.out)).mono ?_; rintro e w3 ⟨rfl, hb3⟩; rw [K1.out]; have B3 := Lib.hid (below_chain B2.out hb3); clear hb3))
      go_ret
      exact ⟨by first | rfl | simp, below_chain B1.out B3.out⟩
  · have hd : 1048576 < n := by omega
    clear hb hab
    go_enter Try.func13, Try.ntmps13
    go_wp2_with fail
    go_ret
    exact ⟨rfl, Below.refl _ _⟩
end Go.Proofs.Ytlncinbphgallaa
