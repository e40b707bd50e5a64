/- The model's DrawFairPays: drawn bids. -/
import Derived.Test.YtaipodnhnekpjaaDrawBid
namespace Go.Proofs.Ytaipodnhnekpjaa
set_option linter.unusedVariables false
set_option linter.unusedSimpArgs false
open Go.RowKit

theorem drawFairPays_any (n c : Nat) (a : Option Addr) (B : Nat → Nat) (w : World) (hn : n ≤ 1048576) (hc : n ≤ c) (hb : RdB w a n B) (hab : 0 < n → ∀ b o, a = some ⟨b, o, none⟩ → b < w.heap.size) :
    Calls Try.prog 41 #[.slice a n c] w (DrewBidsTop w) := by
  have H := Lib.hid (l92Bid_any n c a B w hn hc hb hab)
  clear hb hab
  go_enter Try.func41, Try.ntmps41
  go_wp2_with fail
  refine H.out.mono ?_
  rintro e w1 ⟨ga, N, gc, A, L, C, Z, rfl, h⟩
  have HH := Lib.hid h
  clear h H
  go_wp2
  go_ret
  exact ⟨ga, N, gc, A, L, C, Z, rfl, HH.out⟩
end Go.Proofs.Ytaipodnhnekpjaa
