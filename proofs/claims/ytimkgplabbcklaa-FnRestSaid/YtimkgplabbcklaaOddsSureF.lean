/- The program's OddsSure. -/
import Derived.Test.YtimkgplabbcklaaReadOdds
import Derived.Test.YtimkgplabbcklaaFraction
namespace Go.Proofs.Ytimkgplabbcklaa
set_option linter.unusedVariables false
set_option linter.unusedSimpArgs false
open Go.RowKit

set_option maxRecDepth 100000 in
set_option maxHeartbeats 1600000 in
theorem oddsSure_all (m c : Nat) (a : Option Addr) (X : Nat → Int) (w : World) (hm0 : m ≤ 1048576) (hb0 : Rd w a m X) :
    Calls Try.prog 9 #[.slice a m c] w fun e w' => e = .returned (.bool (tt (SureP m X))) ∧ Below w.heap.size w w' := by
  have H := Lib.hid (readOdds_any m c a X w hm0 hb0)
  by_cases h : IsOdds m X
  · have T1 := Lib.hid (tt_of h)
    have HS := Lib.hid (sum_any m c a X w (by have := h.1; omega) hb0 h.2)
    have HF := Lib.hid (fun W b (hc : CountAt W b X m) => lessThanOne_any b m X W h hc)
    clear h hb0
    go_enter Try.func9, Try.ntmps9
    go_wp2_with (first
      | (go_at_call 27; refine H.out.mono ?_; rintro e w' ⟨rfl, rfl⟩; rw [T1.out, show ∀ a : Option Addr, oddsV true a m c = .slice a m c from fun _ => rfl])
      | (go_at_call 28; refine HS.out.mono ?_; rintro e w2 ⟨b, rfl, hc, hb⟩; have C2 := Lib.hid hc; have B2 := Lib.hid hb; clear hc hb)
      | (go_at_call 29; refine (HF.out _ _ C2.out).mono ?_; rintro e w3 ⟨rfl, hb⟩; have B3 := Lib.hid (B2.out.trans (hb.mono B2.out.size)); clear hb))
    go_ret
    exact ⟨rfl, B3.out⟩
  · have T1 := Lib.hid (tt_no h)
    rw [tt_no (show ¬ SureP m X from fun h' => h h'.1)]
    clear h hb0
    go_enter Try.func9, Try.ntmps9
    go_wp2_with (go_at_call 27; refine H.out.mono ?_; rintro e w' ⟨rfl, rfl⟩; rw [T1.out, show ∀ a : Option Addr, oddsV false a m c = .slice none 0 0 from fun _ => rfl])
    go_ret
    exact ⟨rfl, Below.refl _ _⟩
theorem oddsSure_any (m c : Nat) (a : Option Addr) (X : Nat → Int) (w : World) (hm0 : m ≤ 1048576) (hmd0 : m ≤ c) (hb0 : Rd w a m X) :
    Calls Try.prog 9 #[.slice a m c] w fun e w' => e = .returned (.bool (tt (SureP m X))) ∧ Below w.heap.size w w' := oddsSure_all m c a X w hm0 hb0
end Go.Proofs.Ytimkgplabbcklaa
