/- The model's DrawSwapDo. -/
import Derived.Test.YtlncinbphgallaaDrawPair
namespace Go.Proofs.Ytlncinbphgallaa
set_option linter.unusedVariables false
open Go.RowKit

theorem drawSwapDo_any (n c : Nat) (a : Option Addr) (B : Nat → Nat) (w : World) (hn : n ≤ 1048576) (hc : n ≤ c) (hb : RdB w a n B) (hab : 0 < n → ∀ b o, a = some ⟨b, o, none⟩ → b < w.heap.size) :
    Calls Try.prog 42 #[.slice a n c] w (DrewPair w) := by
  have HP := Lib.hid (l92Pair_any n c a B w hn hc hb hab)
  clear hb hab
  go_enter Try.func42, Try.ntmps42
  go_wp2_with fail
  refine HP.out.mono ?_
  rintro e w1 ⟨ga, N, gc, A, L, C, Z, b, m, d, X, i, k, rfl, h1, h2, h3, h4, h5⟩
  have K := Lib.hid (And.intro h1 (And.intro h2 (And.intro h3 (And.intro h4 h5))))
  clear h1 h2 h3 h4 h5
  go_wp2
  (try simp only [Exit.inBlock, Exit.then])
  refine bodyPost_ret (results_four rfl _ _ _) rfl ?_
  exact ⟨ga, N, gc, A, L, C, Z, b, m, d, X, i, k, rfl, K.out.1, K.out.2.1, K.out.2.2.1, K.out.2.2.2.1, K.out.2.2.2.2⟩
end Go.Proofs.Ytlncinbphgallaa
