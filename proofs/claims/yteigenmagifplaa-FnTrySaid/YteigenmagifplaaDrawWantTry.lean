/- The model's DrawWantTry: drawn wants. -/
import Derived.Test.YteigenmagifplaaDrawOneW
namespace Go.Proofs.Yteigenmagifplaa
set_option linter.unusedVariables false
open Go.RowKit

theorem drawWantTry_any (n c : Nat) (a : Option Addr) (B : Nat → Nat) (w : World) (hn : n ≤ 1048576) (hc : n ≤ c) (hb : RdB w a n B) (hab : 0 < n → ∀ b o, a = some ⟨b, o, none⟩ → b < w.heap.size) :
    Calls Try.prog 23 #[.slice a n c] w (DrewW w) := by
  have H := Lib.hid (l92One_any n c a B w hn hc hb hab)
  clear hb hab
  go_enter Try.func23, Try.ntmps23
  go_wp2_with fail
  refine H.out.mono ?_
  rintro e w1 ⟨g, m, cap, X, rfl, h⟩
  have HH := Lib.hid h
  clear h H
  go_wp2
  go_ret
  exact ⟨g, m, cap, X, rfl, HH.out⟩
end Go.Proofs.Yteigenmagifplaa
