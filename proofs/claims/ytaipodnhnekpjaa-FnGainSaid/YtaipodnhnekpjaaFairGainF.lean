/- The program's FairGain. -/
import Derived.Test.YtaipodnhnekpjaaFairAns
import Derived.Test.YtaipodnhnekpjaaItemFair
import Derived.Test.YtaipodnhnekpjaaHasBidder
namespace Go.Proofs.Ytaipodnhnekpjaa
set_option linter.unusedVariables false
set_option linter.unusedSimpArgs false
open Go.RowKit

set_option maxHeartbeats 800000 in
theorem fairGain_all (n c : Nat) (a : Option Addr) (A : Nat → Option Addr) (L C : Nat → Nat) (Z : Nat → Nat → Int) (q d : Nat) (b : Option Addr) (P : Nat → Int) (x : Int) (w : World) (hn0 : n ≤ 1048576) (hL0 : ∀ r, r < n → L r ≤ 1048576) (ha0 : Tab w a n A L C Z) (hm1 : q ≤ 1048576) (hb1 : Rd w b q P) :
    Calls Try.prog 36 #[.slice a n c, .slice b q d, .int .i64 x] w fun e' w' => e' = .returned (.tuple #[.int .i64 (ifT (GainOk n L Z q P x) (gainM Z P x.toNat (L 0))), .bool (tt (GainOk n L Z q P x))]) ∧ Below w.heap.size w w' := by
  have H := Lib.hid (readBidsAndPrices_any n c q d a b A L C Z P w hn0 hL0 ha0 hm1 hb1)
  have HB := Lib.hid (hasBidder_any n c a x w)
  by_cases h1 : IsBids n L Z ∧ ItemP q (L 0) P
  · have T1 := Lib.hid (tt_of h1)
    obtain ⟨h1, h2⟩ := h1
    obtain ⟨h2, h2e⟩ := h2
    by_cases h3 : 0 ≤ x ∧ x < (n : Int)
    · have T3 := Lib.hid (tt_of h3)
      obtain ⟨i, rfl⟩ := Int.eq_ofNat_of_zero_le h3.1
      have hi : i < n := by have := h3.2; omega
      have OK : GainOk n L Z q P (i : Nat) := ⟨⟨h1, h2, h2e⟩, h3⟩
      have HG := Lib.hid (mostGain_any n c q d i a b A L C Z P w hi (by have := h1.1.2.2; omega) ((h1.rows i hi).trans h2e.symm) (by rw [h2e]; exact h1.cells i hi) h2 ha0 hb1)
      rw [ifT_yes OK, tt_of OK, Int.toNat_natCast, ← h2e]
      obtain ⟨t, ht⟩ : ∃ t, t = gainM Z P i q := ⟨_, rfl⟩
      rw [← ht] at HG ⊢
      clear h1 h2 h2e h3 ha0 hb1 ht OK
      go_enter Try.func36, Try.ntmps36
      go_wp2_with (first
        | (go_at_call 49; refine H.out.mono ?_; rintro e' w' ⟨rfl, rfl⟩; rw [T1.out, show bidsV true a n c = .slice a n c from rfl, show bidsV true b q d = .slice b q d from rfl])
        | (go_at_call 76; refine HB.out.mono ?_; rintro e' w' ⟨rfl, rfl⟩; rw [T3.out])
        | (go_at_call 77; refine HG.out.mono ?_; rintro e' w3 ⟨rfl, qq, hqq⟩; have B3 := Lib.hid (show Below w.heap.size w w3 from by rw [hqq]; exact below_drewN (Below.refl _ _) qq); clear hqq))
      go_ret2
      exact ⟨rfl, B3.out⟩
    · have T3 := Lib.hid (tt_no h3)
      have NO := Lib.hid (show ¬ GainOk n L Z q P x from fun h => h3 h.2)
      rw [tt_no NO.out, ifT_no NO.out]
      clear h1 h2 h2e h3 ha0 hb1
      go_enter Try.func36, Try.ntmps36
      go_wp2_with (first
        | (go_at_call 49; refine H.out.mono ?_; rintro e' w' ⟨rfl, rfl⟩; rw [T1.out, show bidsV true a n c = .slice a n c from rfl, show bidsV true b q d = .slice b q d from rfl])
        | (go_at_call 76; refine HB.out.mono ?_; rintro e' w' ⟨rfl, rfl⟩; rw [T3.out]))
      go_ret2
      exact ⟨rfl, Below.refl _ _⟩
  · have T1 := Lib.hid (tt_no h1)
    have NO := Lib.hid (show ¬ GainOk n L Z q P x from fun h => h1 h.1)
    rw [tt_no NO.out, ifT_no NO.out]
    clear h1 ha0 hb1
    go_enter Try.func36, Try.ntmps36
    go_wp2_with (go_at_call 49; refine H.out.mono ?_; rintro e' w' ⟨rfl, rfl⟩; rw [T1.out, show bidsV false a n c = .slice none 0 0 from rfl, show bidsV false b q d = .slice none 0 0 from rfl])
    go_ret2
    exact ⟨rfl, Below.refl _ _⟩
theorem fairGain_any (n c : Nat) (a : Option Addr) (A : Nat → Option Addr) (L C : Nat → Nat) (Z : Nat → Nat → Int) (q d : Nat) (b : Option Addr) (P : Nat → Int) (x : Int) (w : World) (hn0 : n ≤ 1048576) (hL0 : ∀ r, r < n → L r ≤ 1048576) (ha0 : Tab w a n A L C Z) (hm1 : q ≤ 1048576) (hmd1 : q ≤ d) (hb1 : Rd w b q P) (hx2 : I64 x) :
    Calls Try.prog 36 #[.slice a n c, .slice b q d, .int .i64 x] w fun e' w' => e' = .returned (.tuple #[.int .i64 (ifT (GainOk n L Z q P x) (gainM Z P x.toNat (L 0))), .bool (tt (GainOk n L Z q P x))]) ∧ Below w.heap.size w w' :=
  fairGain_all n c a A L C Z q d b P x w hn0 hL0 ha0 hm1 hb1
end Go.Proofs.Ytaipodnhnekpjaa
