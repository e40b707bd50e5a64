/- The model's DrawWantIn: drawn wants. -/
import Derived.Test.YtamglhpgdaoaoaaDrawOneW
namespace Go.Proofs.Ytamglhpgdaoaoaa
set_option linter.unusedVariables false
open Go.RowKit

theorem drawWantIn_any (n c : Nat) (a : Option Addr) (B : Nat → Nat) (w : World) (hn : n ≤ 1048576) (hc : n ≤ c) (hb : RdB w a n B) (hab : 0 < n → ∀ b o, a = some ⟨b, o, none⟩ → b < w.heap.size) :
    Calls Try.prog 15 #[.slice a n c] w (DrewW w) := by
  have H := Lib.hid (l92One_any n c a B w hn hc hb hab)
  clear hb hab
  go_enter Try.func15, Try.ntmps15
  go_wp2_with fail
  refine H.out.mono ?_
  rintro e w1 ⟨g, m, cap, X, rfl, h⟩
  have HH := Lib.hid h
  clear h H
  go_wp2
  go_ret
  exact ⟨g, m, cap, X, rfl, HH.out⟩
end Go.Proofs.Ytamglhpgdaoaoaa
