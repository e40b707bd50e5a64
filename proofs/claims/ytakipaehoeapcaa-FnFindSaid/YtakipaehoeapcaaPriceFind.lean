/- The program's PriceFind. -/
import Derived.Test.YtakipaehoeapcaaRateFirst
import Derived.Test.YtakipaehoeapcaaSpecPriceFind
import Derived.Test.YtakipaehoeapcaaLowest
import Derived.Test.YtakipaehoeapcaaRateStep
import Derived.Test.YtakipaehoeapcaaRateIn
namespace Go.Proofs.Ytakipaehoeapcaa
set_option linter.unusedVariables false
open Go.RowKit

set_option maxHeartbeats 1600000 in
theorem priceFind_cap (n c : Nat) (a : Option Addr) (A : Nat → Option Addr) (L C : Nat → Nat) (Z : Nat → Nat → Int) (w : World) (hn0 : n ≤ 1048576) (hL0 : ∀ r, r < n → L r ≤ 1048576) (ha0 : Tab w a n A L C Z) :
    Calls Try.prog 32 #[.slice a n c] w (RetID (tt (FindOk n L Z)) (findN n L Z) (leastF (foundF Z n) n) w) := by
  have H1 := Lib.hid (rateIn_any n c a A L C Z w hn0 hL0 ha0)
  by_cases hr : IsRates n L Z
  · have H2 := Lib.hid (fun w' (hb : Below w.heap.size w w') => rateGains_any n c a A L C Z w' hn0 hL0 (ha0.below (Nat.le_refl _) hb))
    have H3 := Lib.hid (fun (k : Nat) w' (hk : k < n) (hb : Below w.heap.size w w') => rateStep_any n c a A L C Z (k : Int) 0 w' hn0 hL0 (ha0.below (Nat.le_refl _) hb) (by unfold I64; omega) (by unfold I64; omega))
    have T1 := Lib.hid (tt_of hr)
    have T2 := Lib.hid (gainN_yes hr)
    have hn2 := hr.1.1
    have hn5 := hr.1.2
    have HX := Lib.hid (fun k (hk : k < n) => foundF_range hr hk)
    have HS := Lib.hid (show ∀ k, k < n → stepAns n L Z (k : Int) 0 = foundF Z n k ∧ tt (TwoOk n L Z (k : Int) 0) = true from fun k hk => by
      have h : TwoOk n L Z (k : Int) 0 := ⟨hr, ⟨by omega, by omega⟩, ⟨by omega, by omega⟩⟩
      exact ⟨by rw [stepAns_yes h]; rfl, tt_of h⟩)
    obtain ⟨N, hN⟩ : ∃ N, N = (gaining n Z).length := ⟨_, rfl⟩
    by_cases h0 : N = 0
    · have TG := Lib.hid (tt_no (show ¬ 0 < gainN n L Z by rw [T2.out, ← hN]; omega))
      have T4 := Lib.hid (tt_of (show FindOk n L Z from ⟨hr, by omega⟩))
      have T5 := Lib.hid (findN_yes (show FindOk n L Z from ⟨hr, by omega⟩))
      have hmk := run_make_row' (P := Try.prog) 67 3 (.int .i64 0) 8 Try.underlying67 Try.infoInt rfl .i64 .i64 n (by omega) (by omega)
      clear hL0 ha0 hr hN h0
      go_enter Try.func32, Try.ntmps32
      go_wp2_with (first
        | (go_at_call 72; refine H1.out.mono ?_; rintro e w1 ⟨rfl, hb1⟩; rw [T1.out]; have B1 := Lib.hid hb1; clear hb1)
        | (go_at_call 16; refine (H2.out _ B1.out).mono ?_; rintro e w2 ⟨rfl, hb2⟩; rw [TG.out]; have B2 := Lib.hid (below_chain B1.out hb2); clear hb2))
      clear hmk
      obtain ⟨g, hg⟩ : ∃ g, g = w2.heap.size := ⟨_, rfl⟩
      have hgw : w.heap.size ≤ g := by have := B2.out.size; omega
      have O0 := Lib.hid (OwnR.of_row (World.rowIs_made w2 (.int .i64 0) n 3))
      have BA := Lib.hid (show Below w.heap.size w (w2.alloc (.cells (madeCells #[.int .i64 0] n) 3)) from B2.out.alloc B2.out.size _)
      rw [← hg] at O0 ⊢
      clear hg
      go_loopw [5, 18] (fun _ s wr => ∃ k : Nat, k ≤ n ∧ s = .int .i64 k ∧ OwnR wr g (some ⟨g, 0, none⟩) n (fun j => if j < k then foundF Z n j else 0) ∧ g < wr.heap.size ∧ Below w.heap.size w wr) (fun _ s _ => n - (intOf s).toNat)
      case atStart => exact ⟨0, Nat.zero_le _, rfl, O0.out.congr (fun j _ => by rw [if_neg (Nat.not_lt_zero _)]), by have := World.block_lt_of_cell? _ _ (O0.out.at (show 0 < n by omega)).1; exact this, BA.out⟩
      case round =>
        obtain ⟨k, hk, rfl, hO, hgl, hb⟩ := hrel
        have HO := Lib.hid hO
        have HB := Lib.hid hb
        clear hO hb O0 BA
        by_cases hlt : k < n
        · have E1 := Lib.hid (HS.out k hlt).1
          have E2 := Lib.hid (HS.out k hlt).2
          go_wp2_with (go_at_call 73; refine (H3.out k _ hlt HB.out).mono ?_; rintro e w3 ⟨rfl, hb3⟩; rw [E1.out, E2.out]; have O3 := Lib.hid (HO.out.of_block (hb3.block g hgl)); have hc3 := (O3.out.at hlt).1; have hf3 := (O3.out.at hlt).2; have B3 := Lib.hid (HB.out.trans (hb3.mono HB.out.size)); have Z3 := Lib.hid hb3.size; clear hb3)
          go_roundw
          case rel =>
            refine ⟨k + 1, by omega, by go_num, (O3.out.set hlt _).congr (fun j _ => ?_), by have := Z3.out; simp; omega, B3.out.setCell (p := ⟨g, k, none⟩) hgw _⟩
            by_cases e : j = k
            · subst e; rw [if_pos rfl, if_pos (by omega)]
            · rw [if_neg e]
              by_cases h' : j < k
              · rw [if_pos h', if_pos (by omega)]
              · rw [if_neg h', if_neg (by omega)]
          case measure => simp [intOf]; omega
        · obtain rfl : k = n := by omega
          have HR := Lib.hid ((HO.out.congr (Y := foundF Z k) (fun j hj => by rw [if_pos hj])).rd)
          go_wp2_with (go_at_call 74; refine (lowest_any k _ _ (foundF Z k) _ (by omega) hn5 HR.out HX.out).mono ?_; rintro e w4 ⟨g4, cap4, rfl, hg4, hO4, hb4⟩; have O4 := Lib.hid hO4; have B4 := Lib.hid (HB.out.trans (hb4.mono HB.out.size)); have Z4 := Lib.hid (show w.heap.size ≤ g4 by have := HB.out.size; omega); clear hO4 hb4)
          go_ret2
          refine ⟨_, _, by rw [T4.out, T5.out]; rfl, by rw [T5.out]; exact hg4.2.2, ?_, B4.out⟩
          rw [T5.out]
          exact .inr ⟨g4, Z4.out, hg4.2.1, O4.out⟩
    · have TG := Lib.hid (tt_of (show 0 < gainN n L Z by rw [T2.out, ← hN]; omega))
      have T4 := Lib.hid (tt_no (show ¬ FindOk n L Z from fun h => h0 (by rw [hN]; exact h.2)))
      have T5 := Lib.hid (findN_no (show ¬ FindOk n L Z from fun h => h0 (by rw [hN]; exact h.2)))
      clear hL0 ha0 hr hN h0
      go_enter Try.func32, Try.ntmps32
      go_wp2_with (first
        | (go_at_call 72; refine H1.out.mono ?_; rintro e w1 ⟨rfl, hb1⟩; rw [T1.out]; have B1 := Lib.hid hb1; clear hb1)
        | (go_at_call 16; refine (H2.out _ B1.out).mono ?_; rintro e w2 ⟨rfl, hb2⟩; rw [TG.out]; have B2 := Lib.hid (below_chain B1.out hb2); clear hb2))
      go_ret2
      exact ⟨_, _, by rw [T4.out, T5.out]; rfl, by rw [T5.out]; exact Nat.zero_le _, .inl T5.out, B2.out⟩
  · have T1 := Lib.hid (tt_no hr)
    have T4 := Lib.hid (tt_no (show ¬ FindOk n L Z from fun h => hr h.1))
    have T5 := Lib.hid (findN_no (show ¬ FindOk n L Z from fun h => hr h.1))
    clear hL0 ha0 hr
    go_enter Try.func32, Try.ntmps32
    go_wp2_with (go_at_call 72; refine H1.out.mono ?_; rintro e w1 ⟨rfl, hb1⟩; rw [T1.out]; have B1 := Lib.hid hb1; clear hb1)
    go_ret2
    exact ⟨_, _, by rw [T4.out, T5.out]; rfl, by rw [T5.out]; exact Nat.zero_le _, .inl T5.out, B1.out⟩
theorem priceFind_any (n c : Nat) (a : Option Addr) (A : Nat → Option Addr) (L C : Nat → Nat) (Z : Nat → Nat → Int) (w : World) (hn0 : n ≤ 1048576) (hL0 : ∀ r, r < n → L r ≤ 1048576) (ha0 : Tab w a n A L C Z) :
    Calls Try.prog 32 #[.slice a n c] w (RetIB (tt (FindOk n L Z)) (findN n L Z) (leastF (foundF Z n) n) w) := by
  refine (priceFind_cap n c a A L C Z w hn0 hL0 ha0).mono ?_
  rintro e w' ⟨b, d, he, _, hO, hb⟩
  exact ⟨b, d, he, hO, hb⟩
end Go.Proofs.Ytakipaehoeapcaa
