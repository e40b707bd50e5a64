/- The model's DrawOddsRest. -/
import Derived.Test.YtimkgplabbcklaaDrawOdd
namespace Go.Proofs.Ytimkgplabbcklaa
set_option linter.unusedVariables false
set_option linter.unusedSimpArgs false
open Go.RowKit

theorem drawOddsRest_any (n c : Nat) (a : Option Addr) (B : Nat → Nat) (w : World) (hn : n ≤ 1048576) (hc : n ≤ c) (hb : RdB w a n B) (hab : 0 < n → ∀ b o, a = some ⟨b, o, none⟩ → b < w.heap.size) :
    Calls Try.prog 23 #[.slice a n c] w (DrewO w) := by
  have H := Lib.hid (l92Odd_any n c a B w hn hc hb hab)
  clear hb hab
  go_enter Try.func23, Try.ntmps23
  go_wp2_with fail
  refine H.out.mono ?_
  rintro e w1 ⟨g, q, d, X, rfl, h1, h2, h3⟩
  have H1 := Lib.hid h1
  have H2 := Lib.hid h2
  have H3 := Lib.hid h3
  clear h1 h2 h3 H
  go_wp2
  go_ret
  exact ⟨g, q, d, X, rfl, H1.out, H2.out, H3.out⟩
end Go.Proofs.Ytimkgplabbcklaa
