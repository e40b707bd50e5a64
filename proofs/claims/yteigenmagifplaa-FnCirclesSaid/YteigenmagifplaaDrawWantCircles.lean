/- The model's DrawWantCircles: drawn wants and a number. -/
import Derived.Test.YteigenmagifplaaDrawShort
namespace Go.Proofs.Yteigenmagifplaa
set_option linter.unusedVariables false
open Go.RowKit

theorem drawWantCircles_any (n c : Nat) (a : Option Addr) (B : Nat → Nat) (w : World) (hn : n ≤ 1048576) (hc : n ≤ c) (hb : RdB w a n B) (hab : 0 < n → ∀ b o, a = some ⟨b, o, none⟩ → b < w.heap.size) :
    Calls Try.prog 10 #[.slice a n c] w (DrewWK w) := by
  have H := Lib.hid (l92Short_any n c a B w hn hc hb hab)
  clear hb hab
  go_enter Try.func10, Try.ntmps10
  go_wp2_with fail
  refine H.out.mono ?_
  rintro e w1 ⟨g, m, cap, X, k, rfl, h⟩
  have HH := Lib.hid h
  clear h H
  go_wp2
  go_ret2
  exact ⟨g, m, cap, X, k, rfl, HH.out⟩
end Go.Proofs.Yteigenmagifplaa
