/- The model's DrawPriceFind: a drawn table. -/
import Derived.Test.YtakipaehoeapcaaDrawOne
namespace Go.Proofs.Ytakipaehoeapcaa
set_option linter.unusedVariables false
open Go.RowKit

theorem drawPriceFind_any (n c : Nat) (a : Option Addr) (B : Nat → Nat) (w : World) (hn : n ≤ 1048576) (hc : n ≤ c) (hb : RdB w a n B) (hab : 0 < n → ∀ b o, a = some ⟨b, o, none⟩ → b < w.heap.size) :
    Calls Try.prog 33 #[.slice a n c] w (DrewTabTop w) := by
  have H := Lib.hid (l91One_any n c a B w hn hc hb hab)
  clear hb hab
  go_enter Try.func33, Try.ntmps33
  go_wp2_with fail
  refine H.out.mono ?_
  rintro e w1 ⟨ga, N, gc, A, L, C, Z, rfl, h⟩
  have HH := Lib.hid h
  clear h H
  go_wp2
  go_ret
  exact ⟨ga, N, gc, A, L, C, Z, rfl, HH.out⟩
end Go.Proofs.Ytakipaehoeapcaa
