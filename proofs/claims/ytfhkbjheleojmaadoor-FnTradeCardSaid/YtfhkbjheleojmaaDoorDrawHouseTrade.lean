/- The model's DrawHouseTrade: drawn wishes. -/
import Derived.Test.YtfhkbjheleojmaaDoorDrawWished
namespace Go.Proofs.YtfhkbjheleojmaaDoor
set_option linter.unusedVariables false
open Go.RowKit

theorem drawHouseTrade_any (n c : Nat) (a : Option Addr) (B : Nat → Nat) (w : World) (hn : n ≤ 1048576) (hc : n ≤ c) (hb : RdB w a n B) (hab : 0 < n → ∀ b o, a = some ⟨b, o, none⟩ → b < w.heap.size) :
    Calls Tryd.prog 23 #[.slice a n c] w (DrewTabTop w) := by
  have H := Lib.hid (l91Wished_any n c a B w hn hc hb hab)
  clear hb hab
  go_enter Tryd.func23, Tryd.ntmps23
  go_wp2_with fail
  refine H.out.mono ?_
  rintro e w1 ⟨ga, N, gc, A, L, C, Z, rfl, h1, h2, h3, h4⟩
  have HX := Lib.hid (And.intro h1 (And.intro h2 (And.intro h3 h4)))
  clear h1 h2 h3 h4
  go_wp2
  go_ret
  exact ⟨ga, N, gc, A, L, C, Z, rfl, HX.out.1, HX.out.2.1, HX.out.2.2.1, HX.out.2.2.2⟩
end Go.Proofs.YtfhkbjheleojmaaDoor
