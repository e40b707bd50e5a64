/- The model's DrawTermMoved. -/
import Derived.Test.YtnaegnjgpnakfaaDoorDrawText
namespace Go.Proofs.YtnaegnjgpnakfaaDoor
set_option linter.unusedVariables false
set_option linter.unusedSimpArgs false
open Go.RowKit

theorem drawTermMoved_any (n c : Nat) (a : Option Addr) (B : Nat → Nat) (w : World) (hn : n ≤ 1048576) (hc : n ≤ c) (hb : RdB w a n B) (hab : 0 < n → ∀ b o, a = some ⟨b, o, none⟩ → b < w.heap.size) :
    Calls Tryd.prog 37 #[.slice a n c] w (DrewW w) := by
  have H := Lib.hid (l92Word_any n c a B w hn hc hb hab)
  clear hb hab
  go_enter Tryd.func37, Tryd.ntmps37
  go_wp2_with fail
  refine H.out.mono ?_
  rintro e w1 ⟨q, s, rfl, hq, hs, hb1⟩
  have B1 := Lib.hid hb1
  clear hb1
  go_wp2_with fail
  go_ret2
  exact ⟨q, s, rfl, hq, hs, B1.out⟩
end Go.Proofs.YtnaegnjgpnakfaaDoor
