/- The model's BidDeals. -/
import Derived.Test.YtbmkgkiochhdmaaSpecBidIn
import Derived.Test.YtbmkgkiochhdmaaBidMost
import Derived.Test.YtbmkgkiochhdmaaL7First
namespace Go.Proofs.Ytbmkgkiochhdmaa
set_option linter.unusedVariables false
set_option linter.unusedSimpArgs false
open Go.RowKit

set_option maxHeartbeats 800000 in
theorem specBidDeals_any (n c : Nat) (a : Option Addr) (A : Nat → Option Addr) (L C : Nat → Nat) (Z : Nat → Nat → Int) (w : World) (hn0 : n ≤ 1048576) (hL0 : ∀ r, r < n → L r ≤ 1048576) (ha0 : Tab w a n A L C Z) :
    Calls Try.prog 32 #[.slice a n c] w fun e w' => e = .returned (.tuple #[.int .i64 (ifT (IsBids n L Z) ((bestsL n Z (dealsP (L 0) n)).length : Nat)), .bool (tt (IsBids n L Z))]) ∧ Below w.heap.size w w' := by
  have H := Lib.hid (specBidIn_any n c a A L C Z w hn0 hL0 ha0)
  by_cases h1 : IsBids n L Z
  · have T1 := Lib.hid (tt_of h1)
    have T2 := Lib.hid (ifT_yes (x := ((bestsL n Z (dealsP (L 0) n)).length : Nat)) h1)
    have HF := Lib.hid (fun w' (hb : Below w.heap.size w w') => l7First_any n c a A L C Z w' h1 (ha0.below (Nat.le_refl _) hb))
    clear h1 ha0
    go_enter Try.func32, Try.ntmps32
    go_wp2_with (go_at_call 12; refine H.out.mono ?_; rintro e w1 ⟨rfl, hb⟩; rw [T1.out]; have B1 := Lib.hid hb; clear hb)
    refine (HF.out _ B1.out).mono ?_
    rintro e w2 ⟨v, l, G, Cp, rfl, hown, hrow, hl, hb⟩
    have hp : 0 < l.length := by
      have := bests_pos (Z := Z) (dealsP_none (m := L 0) n)
      rw [← hl, List.length_map] at this
      exact this
    obtain ⟨g, cap, rfl⟩ := owns_form hown hp
    have QL := Lib.hid (show (bestsL n Z (dealsP (L 0) n)).length = l.length by rw [← hl, List.length_map])
    have B2 := Lib.hid (B1.out.trans (hb.mono B1.out.size))
    clear hown hrow hl hb HF hp
    go_wp2
    go_ret2
    exact ⟨by rw [T1.out, T2.out, QL.out]; rfl, B2.out⟩
  · have T1 := Lib.hid (tt_no h1)
    have T2 := Lib.hid (ifT_no (x := ((bestsL n Z (dealsP (L 0) n)).length : Nat)) h1)
    clear h1 ha0
    go_enter Try.func32, Try.ntmps32
    go_wp2_with (go_at_call 12; refine H.out.mono ?_; rintro e w1 ⟨rfl, hb⟩; rw [T1.out]; have B1 := Lib.hid hb; clear hb)
    go_ret2
    exact ⟨by rw [T1.out, T2.out]; rfl, B1.out⟩
end Go.Proofs.Ytbmkgkiochhdmaa
