/- The model's DrawOddsWins. -/
import Derived.Test.YtimkgplabbcklaaDrawStaked
namespace Go.Proofs.Ytimkgplabbcklaa
set_option linter.unusedVariables false
set_option linter.unusedSimpArgs false
open Go.RowKit

theorem drawOddsWins_any (n c : Nat) (a : Option Addr) (B : Nat → Nat) (w : World) (hn : n ≤ 1048576) (hc : n ≤ c) (hb : RdB w a n B) (hab : 0 < n → ∀ b o, a = some ⟨b, o, none⟩ → b < w.heap.size) :
    Calls Try.prog 21 #[.slice a n c] w (DrewOO w) := by
  have H := Lib.hid (l92Staked_any n c a B w hn hc hb hab)
  clear hb hab
  go_enter Try.func21, Try.ntmps21
  go_wp2_with fail
  refine H.out.mono ?_
  rintro e w1 ⟨g, q, d, X, ab, q', d', Y, rfl, h1, h2, h3, h4, h5⟩
  have H1 := Lib.hid h1
  have H3 := Lib.hid h3
  have H4 := Lib.hid h4
  have H5 := Lib.hid h5
  clear h1 h3 h4 h5 H
  go_wp2
  go_ret2
  exact ⟨g, q, d, X, ab, q', d', Y, rfl, H1.out, h2, H3.out, H4.out, H5.out⟩
end Go.Proofs.Ytimkgplabbcklaa
