/- The model's l7Item: bids and an item. -/
import Derived.Test.YtbmkgkiochhdmaaSpecBidIn
namespace Go.Proofs.Ytbmkgkiochhdmaa
set_option linter.unusedVariables false
set_option linter.unusedSimpArgs false
open Go.RowKit

set_option maxHeartbeats 800000 in
theorem l7Item_any (n c : Nat) (a : Option Addr) (A : Nat → Option Addr) (L C : Nat → Nat) (Z : Nat → Nat → Int) (x : Int) (w : World) (hn0 : n ≤ 1048576) (hL0 : ∀ r, r < n → L r ≤ 1048576) (ha0 : Tab w a n A L C Z) :
    Calls Try.prog 56 #[.slice a n c, .int .i64 x] w fun e w' => e = .returned (.bool (tt (IsBids n L Z ∧ 0 ≤ x ∧ x < (L 0 : Int)))) ∧ Below w.heap.size w w' := by
  have H := Lib.hid (specBidIn_any n c a A L C Z w hn0 hL0 ha0)
  by_cases h1 : IsBids n L Z
  · have T1 := Lib.hid (tt_of h1)
    obtain ⟨ba, oa, rfl, hc0, _⟩ := ha0 0 (by have := h1.1.1; omega)
    rw [Nat.add_zero] at hc0
    obtain ⟨m, hm⟩ : ∃ m, m = L 0 := ⟨_, rfl⟩
    have hm4 : m ≤ 4 := by rw [hm]; exact h1.1.2.2
    have hm1 : 1 ≤ m := by rw [hm]; exact h1.1.2.1
    have hn0' : (0 : Int) < (n : Int) := by have := h1.1.1; omega
    have T2 := Lib.hid (show tt (InR x 0 ((m : Int) - 1)) = tt (IsBids n L Z ∧ 0 ≤ x ∧ x < (L 0 : Int)) from tt_congr ⟨fun h => ⟨h1, h.1, by have := h.2; omega⟩, fun h => ⟨h.2.1, by have := h.2.2; omega⟩⟩)
    rw [← hm] at hc0
    have HC := Lib.hid hc0
    have hw0 : IntKind.i64.wrap ((m : Int) - 1) = (m : Int) - 1 := by rw [IntKind.wrap_i64]; omega
    clear h1 ha0 hm hc0
    go_enter Try.func56, Try.ntmps56
    go_wp2_with (first
      | (go_at_call 12; refine H.out.mono ?_; rintro e w1 ⟨rfl, hb⟩; rw [T1.out]; have B1 := Lib.hid hb; have hc1 := (hb.cell (p := ⟨ba, oa, none⟩) (World.block_lt_of_cell? _ _ HC.out)).trans HC.out; clear hb)
      | (go_at_call 35; refine (l6In_any _ _ _ _).mono ?_; rintro e w' ⟨rfl, rfl⟩; rw [T2.out]))
    go_ret
    exact ⟨rfl, B1.out⟩
  · have T1 := Lib.hid (tt_no h1)
    have T2 := Lib.hid (tt_no (show ¬ (IsBids n L Z ∧ 0 ≤ x ∧ x < (L 0 : Int)) from fun h => h1 h.1))
    clear h1 ha0
    go_enter Try.func56, Try.ntmps56
    go_wp2_with (go_at_call 12; refine H.out.mono ?_; rintro e w1 ⟨rfl, hb⟩; rw [T1.out]; have B1 := Lib.hid hb; clear hb)
    go_ret
    exact ⟨by rw [T2.out]; rfl, B1.out⟩
end Go.Proofs.Ytbmkgkiochhdmaa
