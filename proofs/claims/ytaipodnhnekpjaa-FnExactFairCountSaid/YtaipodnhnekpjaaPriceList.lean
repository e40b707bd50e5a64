/- The program's lists of item prices: of, withinLimits; readBidsAndPrices. -/
import Derived.Test.YtaipodnhnekpjaaFairFn
import Derived.Test.YtaipodnhnekpjaaReadBids
namespace Go.Proofs.Ytaipodnhnekpjaa
set_option linter.unusedVariables false
set_option linter.unusedSimpArgs false
open Go.RowKit

theorem priceOf_any (q d k : Nat) (b : Option Addr) (P : Nat → Int) (w : World) (hk : k < q) (hb0 : Rd w b q P) :
    Calls Try.prog 111 #[.slice b q d, .int .i64 (k : Nat)] w fun e w' => e = .returned (.int .i64 (P k)) ∧ w' = w := by
  obtain ⟨bb, ob, rfl, hcb⟩ := hb0 k hk
  obtain ⟨p, hp⟩ : ∃ p, p = P k := ⟨_, rfl⟩
  rw [← hp] at hcb ⊢
  have i1 : (0 : Int) ≤ (k : Int) := by omega
  have i2 : (k : Int) < (q : Int) := by omega
  clear hb0 hp
  go_enter Try.func111, Try.ntmps111
  go_wp2
  go_ret
  exact ⟨rfl, rfl⟩

theorem priceOut_any (x : Int) (w : World) :
    Calls Try.prog 109 #[.int .i64 x] w fun e w' => e = .returned (.bool (tt (¬ (0 ≤ x ∧ x ≤ 20)))) ∧ w = w' := by
  by_cases h1 : x < 0
  · have d1 : decide (x < 0) = true := by simpa using h1
    have T := Lib.hid (tt_of (show ¬ (0 ≤ x ∧ x ≤ 20) from fun h => by omega))
    clear h1
    go_enter Try.func109, Try.ntmps109
    go_wp2
    go_ret
    exact ⟨by rw [T.out]; rfl, rfl⟩
  · have d1 : decide (x < 0) = false := by simpa using h1
    by_cases h2 : x > 20
    · have d2 : decide (x > 20) = true := by simpa using h2
      have T := Lib.hid (tt_of (show ¬ (0 ≤ x ∧ x ≤ 20) from fun h => by omega))
      clear h1 h2
      go_enter Try.func109, Try.ntmps109
      go_wp2
      go_ret
      exact ⟨by rw [T.out]; rfl, rfl⟩
    · have d2 : decide (x > 20) = false := by simpa using h2
      have T := Lib.hid (tt_no (show ¬ ¬ (0 ≤ x ∧ x ≤ 20) from fun h => h ⟨by omega, by omega⟩))
      clear h1 h2
      go_enter Try.func109, Try.ntmps109
      go_wp2
      go_ret
      exact ⟨by rw [T.out]; rfl, rfl⟩

set_option maxHeartbeats 800000 in
theorem indexOut_any (m d : Nat) (b : Option Addr) (P : Nat → Int) (w : World) (hm : m ≤ 1048576) (hr : Rd w b m P) :
    Calls Try.prog 118 #[.slice b m d, .func (.func 109) #[] #[]] w fun e w' => (∃ x, e = .returned (.int .i64 x) ∧ decide (x ≥ 0) = !tt (∀ k, k < m → 0 ≤ P k ∧ P k ≤ 20)) ∧ w = w' := by
  have HR := Lib.hid hr
  clear hr
  go_enter Try.func118, Try.ntmps118
  go_wp2_with fail
  go_loop [4, 5, 8] (fun _ _ s => ∃ k : Nat, k ≤ m ∧ s = .int .i64 k ∧ ∀ i, i < k → 0 ≤ P i ∧ P i ≤ 20) (fun _ _ s => m - (intOf s).toNat)
  case atStart => exact ⟨0, Nat.zero_le _, rfl, fun i hi => absurd hi (Nat.not_lt_zero _)⟩
  case round =>
    obtain ⟨k, hk, rfl, hall⟩ := hrel
    have HAll := Lib.hid hall
    clear hall
    by_cases hlt : k < m
    · obtain ⟨ba, oa, rfl, hca⟩ := HR.out k hlt
      by_cases e : 0 ≤ P k ∧ P k ≤ 20
      · have T1 := Lib.hid (tt_no (show ¬ ¬ (0 ≤ P k ∧ P k ≤ 20) from fun h => h e))
        have E := Lib.hid e
        clear e
        go_wp2_with (go_at_call 109; refine (priceOut_any _ _).mono ?_; rintro e w' ⟨rfl, rfl⟩; rw [T1.out])
        go_round
        case rel => exact ⟨k + 1, by omega, by go_num, fun i hi => by
          by_cases ei : i = k
          · rw [ei]; exact E.out
          · exact HAll.out i (by omega)⟩
        case measure => simp [intOf]; omega
      · have T1 := Lib.hid (tt_of e)
        have E := Lib.hid (tt_no (show ¬ ∀ k, k < m → 0 ≤ P k ∧ P k ≤ 20 from fun h => e (h k hlt)))
        clear e
        go_wp2_with (go_at_call 109; refine (priceOut_any _ _).mono ?_; rintro e w' ⟨rfl, rfl⟩; rw [T1.out])
        go_ret
        exact ⟨⟨_, rfl, by rw [E.out]; simp⟩, rfl⟩
    · obtain rfl : k = m := by omega
      have E := Lib.hid (tt_of HAll.out)
      go_wp2_with fail
      go_ret
      exact ⟨⟨_, rfl, by rw [E.out]; rfl⟩, rfl⟩

theorem withinLimits_any (m d : Nat) (b : Option Addr) (P : Nat → Int) (w : World) (hm : m ≤ 1048576) (hr : Rd w b m P) :
    Calls Try.prog 83 #[.slice b m d] w fun e w' => e = .returned (.bool (tt (∀ k, k < m → 0 ≤ P k ∧ P k ≤ 20))) ∧ w = w' := by
  have H := Lib.hid (indexOut_any m d b P w hm hr)
  obtain ⟨t, ht⟩ : ∃ t, t = tt (∀ k, k < m → 0 ≤ P k ∧ P k ≤ 20) := ⟨_, rfl⟩
  rw [← ht] at H ⊢
  have HC : Calls Try.prog 108 #[.slice b m d, .func (.func 109) #[] #[]] w fun e w' => e = .returned (.bool (!t)) ∧ w = w' := by
    clear hr ht
    go_enter Try.func108, Try.ntmps108
    go_wp2_with (go_at_call 118; refine H.out.mono ?_; rintro e w' ⟨⟨x, rfl, hx⟩, rfl⟩)
    go_ret
    exact ⟨by rw [← hx]; rfl, rfl⟩
  have HC := Lib.hid HC
  clear hr ht H
  go_enter Try.func83, Try.ntmps83
  go_wp2_with (go_at_call 108; refine HC.out.mono ?_; rintro e w' ⟨rfl, rfl⟩)
  go_ret
  exact ⟨by simp, rfl⟩

set_option maxHeartbeats 800000 in
theorem readBidsAndPrices_any (n c q d : Nat) (a b : Option Addr) (A : Nat → Option Addr) (L C : Nat → Nat) (Z : Nat → Nat → Int) (P : Nat → Int) (w : World) (hn0 : n ≤ 1048576) (hL0 : ∀ r, r < n → L r ≤ 1048576) (ha0 : Tab w a n A L C Z) (hm1 : q ≤ 1048576) (hb1 : Rd w b q P) :
    Calls Try.prog 49 #[.slice a n c, .slice b q d] w fun e w' => e = .returned (.tuple #[bidsV (tt (IsBids n L Z ∧ ItemP q (L 0) P)) a n c, bidsV (tt (IsBids n L Z ∧ ItemP q (L 0) P)) b q d, .bool (tt (IsBids n L Z ∧ ItemP q (L 0) P))]) ∧ w = w' := by
  have H := Lib.hid (readBids_any n c a A L C Z w hn0 hL0 ha0)
  by_cases h1 : IsBids n L Z
  · have T1 := Lib.hid (tt_of h1)
    have HI := Lib.hid (bidItems_any n c a A L C Z w (by have := h1.1.1.1; omega) ha0)
    have HW := Lib.hid (withinLimits_any q d b P w hm1 hb1)
    by_cases h2 : q = L 0
    · have d1 : ((q : Int) != (L 0 : Int)) = false := by simp [h2]
      by_cases h3 : ∀ k, k < q → 0 ≤ P k ∧ P k ≤ 20
      · have T2 := Lib.hid (tt_of h3)
        have T3 := Lib.hid (tt_of (show IsBids n L Z ∧ ItemP q (L 0) P from ⟨h1, h3, h2⟩))
        rw [T3.out]
        obtain ⟨m, hm⟩ : ∃ m, m = L 0 := ⟨_, rfl⟩
        rw [← hm] at HI d1
        clear h1 h2 h3 ha0 hb1 hm T3
        go_enter Try.func49, Try.ntmps49
        go_wp2_with (first
          | (go_at_call 58; refine H.out.mono ?_; rintro e w' ⟨rfl, rfl⟩; rw [T1.out, show bidsV true a n c = .slice a n c from rfl])
          | (go_at_call 61; refine HI.out.mono ?_; rintro e w' ⟨rfl, rfl⟩)
          | (go_at_call 83; refine HW.out.mono ?_; rintro e w' ⟨rfl, rfl⟩; rw [T2.out]))
        go_ret3
        exact ⟨rfl, rfl⟩
      · have T2 := Lib.hid (tt_no h3)
        have T3 := Lib.hid (tt_no (show ¬ (IsBids n L Z ∧ ItemP q (L 0) P) from fun h => h3 h.2.1))
        rw [T3.out]
        obtain ⟨m, hm⟩ : ∃ m, m = L 0 := ⟨_, rfl⟩
        rw [← hm] at HI d1
        clear h1 h2 h3 ha0 hb1 hm T3
        go_enter Try.func49, Try.ntmps49
        go_wp2_with (first
          | (go_at_call 58; refine H.out.mono ?_; rintro e w' ⟨rfl, rfl⟩; rw [T1.out, show bidsV true a n c = .slice a n c from rfl])
          | (go_at_call 61; refine HI.out.mono ?_; rintro e w' ⟨rfl, rfl⟩)
          | (go_at_call 83; refine HW.out.mono ?_; rintro e w' ⟨rfl, rfl⟩; rw [T2.out]))
        go_ret3
        exact ⟨rfl, rfl⟩
    · have d1 : ((q : Int) != (L 0 : Int)) = true := by simp; omega
      have T3 := Lib.hid (tt_no (show ¬ (IsBids n L Z ∧ ItemP q (L 0) P) from fun h => h2 h.2.2))
      rw [T3.out]
      obtain ⟨m, hm⟩ : ∃ m, m = L 0 := ⟨_, rfl⟩
      rw [← hm] at HI d1
      clear h1 h2 ha0 hb1 hm T3
      go_enter Try.func49, Try.ntmps49
      go_wp2_with (first
        | (go_at_call 58; refine H.out.mono ?_; rintro e w' ⟨rfl, rfl⟩; rw [T1.out, show bidsV true a n c = .slice a n c from rfl])
        | (go_at_call 61; refine HI.out.mono ?_; rintro e w' ⟨rfl, rfl⟩))
      go_ret3
      exact ⟨rfl, rfl⟩
  · have T1 := Lib.hid (tt_no h1)
    have T3 := Lib.hid (tt_no (show ¬ (IsBids n L Z ∧ ItemP q (L 0) P) from fun h => h1 h.1))
    rw [T3.out]
    clear h1 ha0 hb1 T3
    go_enter Try.func49, Try.ntmps49
    go_wp2_with (go_at_call 58; refine H.out.mono ?_; rintro e w' ⟨rfl, rfl⟩; rw [T1.out, show bidsV false a n c = .slice none 0 0 from rfl])
    go_ret3
    exact ⟨rfl, rfl⟩
end Go.Proofs.Ytaipodnhnekpjaa
