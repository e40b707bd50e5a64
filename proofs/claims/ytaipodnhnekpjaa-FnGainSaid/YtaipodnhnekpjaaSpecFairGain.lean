/- The model's FairGain. -/
import Derived.Test.YtaipodnhnekpjaaFairAns
import Derived.Test.YtaipodnhnekpjaaSpecBidIn
import Derived.Test.YtaipodnhnekpjaaL8Fair
namespace Go.Proofs.Ytaipodnhnekpjaa
set_option linter.unusedVariables false
set_option linter.unusedSimpArgs false
open Go.RowKit

set_option maxHeartbeats 800000 in
theorem specFairGain_any (n c : Nat) (a : Option Addr) (A : Nat → Option Addr) (L C : Nat → Nat) (Z : Nat → Nat → Int) (q d : Nat) (b : Option Addr) (P : Nat → Int) (x : Int) (w : World) (hn0 : n ≤ 1048576) (hL0 : ∀ r, r < n → L r ≤ 1048576) (ha0 : Tab w a n A L C Z) (hm1 : q ≤ 1048576) (hb1 : Rd w b q P) (hx2 : I64 x) :
    Calls Try.prog 35 #[.slice a n c, .slice b q d, .int .i64 x] w fun e' w' => e' = .returned (.tuple #[.int .i64 (ifT (GainOk n L Z q P x) (gainM Z P x.toNat (L 0))), .bool (tt (GainOk n L Z q P x))]) ∧ Below w.heap.size w w' := by
  have H := Lib.hid (specBidIn_any n c a A L C Z w hn0 hL0 ha0)
  have hw0 : IntKind.i64.wrap ((n : Int) - 1) = (n : Int) - 1 := by rw [IntKind.wrap_i64]; omega
  by_cases h1 : IsBids n L Z
  · have T1 := Lib.hid (tt_of h1)
    have HP := Lib.hid (fun w' (hb : Below w.heap.size w w') => l8Prices_any n c q d a b A L C Z P w' h1.1.1.1 hm1 (ha0.below (Nat.le_refl _) hb) (hb1.below (Nat.le_refl _) hb))
    by_cases h2 : ItemP q (L 0) P
    · have T2 := Lib.hid (tt_of h2)
      obtain rfl := h2.2
      by_cases h3 : InR x 0 ((n : Int) - 1)
      · have T3 := Lib.hid (tt_of h3)
        obtain ⟨i, rfl⟩ := Int.eq_ofNat_of_zero_le h3.1
        have hi : i < n := by have := h3.2; omega
        have OK : GainOk n L Z (L 0) P (i : Nat) := ⟨⟨h1, h2⟩, by omega, by omega⟩
        have HG := Lib.hid (fun w' (hb : Below w.heap.size w w') => l8Gain_any n c (L 0) d i a b A L C Z P w' hi (by have := h1.1.2.2; omega) h1.rows h1.cells h2.1 (ha0.below (Nat.le_refl _) hb) (hb1.below (Nat.le_refl _) hb))
        have T4 := Lib.hid (ifT_yes (x := gainM Z P ((i : Nat) : Int).toNat (L 0)) OK)
        have T5 := Lib.hid (tt_of OK)
        rw [T4.out, T5.out, Int.toNat_natCast]
        obtain ⟨t, ht⟩ : ∃ t, t = gainM Z P i (L 0) := ⟨_, rfl⟩
        rw [← ht] at HG ⊢
        clear h1 h2 h3 ha0 hb1 ht T4 T5 OK
        go_enter Try.func35, Try.ntmps35
        go_wp2_with (first
          | (go_at_call 45; refine H.out.mono ?_; rintro e' w1 ⟨rfl, hb⟩; rw [T1.out]; have B1 := Lib.hid hb; clear hb)
          | (go_at_call 46; refine (HP.out _ B1.out).mono ?_; rintro e' w' ⟨rfl, rfl⟩; rw [T2.out])
          | (go_at_call 74; refine (l6In_any _ _ _ _).mono ?_; rintro e' w' ⟨rfl, rfl⟩; rw [T3.out])
          | (go_at_call 75; refine (HG.out _ B1.out).mono ?_; rintro e' w3 ⟨rfl, qq, hqq⟩; have B3 := Lib.hid (show Below w.heap.size w w3 from by rw [hqq]; exact below_drewN B1.out qq); clear hqq))
        go_ret2
        exact ⟨rfl, B3.out⟩
      · have T3 := Lib.hid (tt_no h3)
        have NO := Lib.hid (show ¬ GainOk n L Z (L 0) P x from fun h => h3 ⟨h.2.1, by have := h.2.2; omega⟩)
        rw [tt_no NO.out, ifT_no NO.out]
        clear h1 h2 h3 ha0 hb1
        go_enter Try.func35, Try.ntmps35
        go_wp2_with (first
          | (go_at_call 45; refine H.out.mono ?_; rintro e' w1 ⟨rfl, hb⟩; rw [T1.out]; have B1 := Lib.hid hb; clear hb)
          | (go_at_call 46; refine (HP.out _ B1.out).mono ?_; rintro e' w' ⟨rfl, rfl⟩; rw [T2.out])
          | (go_at_call 74; refine (l6In_any _ _ _ _).mono ?_; rintro e' w' ⟨rfl, rfl⟩; rw [T3.out]))
        go_ret2
        exact ⟨rfl, B1.out⟩
    · have T2 := Lib.hid (tt_no h2)
      have NO := Lib.hid (show ¬ GainOk n L Z q P x from fun h => h2 h.1.2)
      rw [tt_no NO.out, ifT_no NO.out]
      clear h1 h2 ha0 hb1
      go_enter Try.func35, Try.ntmps35
      go_wp2_with (first
        | (go_at_call 45; refine H.out.mono ?_; rintro e' w1 ⟨rfl, hb⟩; rw [T1.out]; have B1 := Lib.hid hb; clear hb)
        | (go_at_call 46; refine (HP.out _ B1.out).mono ?_; rintro e' w' ⟨rfl, rfl⟩; rw [T2.out]))
      go_ret2
      exact ⟨rfl, B1.out⟩
  · have T1 := Lib.hid (tt_no h1)
    have NO := Lib.hid (show ¬ GainOk n L Z q P x from fun h => h1 h.1.1)
    rw [tt_no NO.out, ifT_no NO.out]
    clear h1 ha0 hb1
    go_enter Try.func35, Try.ntmps35
    go_wp2_with (go_at_call 45; refine H.out.mono ?_; rintro e' w1 ⟨rfl, hb⟩; rw [T1.out]; have B1 := Lib.hid hb; clear hb)
    go_ret2
    exact ⟨rfl, B1.out⟩
end Go.Proofs.Ytaipodnhnekpjaa
