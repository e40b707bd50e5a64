/- The model's DrawRateNamed: a drawn table and a drawn row. -/
import Derived.Test.YtmjbocgoinfamaaDrawOne
import Derived.Test.YtmjbocgoinfamaaDrawOrder
namespace Go.Proofs.Ytmjbocgoinfamaa
set_option linter.unusedVariables false
open Go.RowKit

set_option maxHeartbeats 3200000 in
theorem drawRateNamed_any (n c : Nat) (a : Option Addr) (B : Nat → Nat) (w : World) (hn : n ≤ 1048576) (hc : n ≤ c) (hb : RdB w a n B) (hab : 0 < n → ∀ b o, a = some ⟨b, o, none⟩ → b < w.heap.size) :
    Calls Try.prog 36 #[.slice a n c] w (DrewWay w) := by
  have HB := Lib.hid hb
  have HAL := Lib.hid hab
  clear hb hab
  go_enter Try.func36, Try.ntmps36
  go_wp2_with fail
  refine (l6Open_any n c a _ hn hc).mono ?_
  rintro e w1 ⟨n', c', rfl, hn2, hnn, hR1, hs1, hb1⟩
  have HB1 := Lib.hid ((HB.out.below (Nat.le_refl _) hb1).sub hnn)
  have HR1 := Lib.hid hR1
  have Hb1 := Lib.hid hb1
  have hlt1 : w.heap.size < w1.heap.size := by omega
  have HAL1 := Lib.hid (show 0 < n' → ∀ b o, a = some ⟨b, o, none⟩ → b < w1.heap.size ∧ b ≠ w.heap.size from fun h0 b o e => by have := HAL.out (by omega) b o e; exact ⟨by omega, by omega⟩)
  have HAB := Lib.hid (show 0 < n' → ∀ b o, a = some ⟨b, o, none⟩ → b ≠ w.heap.size from fun h0 b o e => (HAL1.out h0 b o e).2)
  clear hR1 hb1 hs1
  go_wp2_with fail
  refine (l91Table_any w.heap.size n' c' 0 a B _ HR1.out HB1.out HAL1.out hn2 (by omega)).mono ?_
  rintro e w2 ⟨ga, N, gc, A, L, C, Z, p2, rfl, ⟨hN1, hN5⟩, ⟨hL, hAp⟩, hT, hR2, hp2, hU2⟩
  have HL := Lib.hid hL
  have HT2 := Lib.hid hT
  have HAp := Lib.hid hAp
  have HR2 := Lib.hid hR2
  have HU2 := Lib.hid hU2
  clear hL hAp hT hR2 hU2
  go_wp2_with fail
  refine (l91Order_any w.heap.size n' c' p2 N a B _ HR2.out (HB1.out.but HAL1.out HU2.out) (fun h0 b o e => ⟨by have := HU2.out.size; have := (HAL1.out h0 b o e).1; omega, HAB.out h0 b o e⟩) hn2 (by omega) (by omega)).mono ?_
  rintro e w3 ⟨g, m, cap, X, p3, rfl, ⟨hg1, hg2, hg3, hg4⟩, hX, hR3, hp3, hU3⟩
  have HX := Lib.hid hX
  have HT3 := Lib.hid (tab_but HT2.out HAp.out hlt1 hU3)
  have HU3 := Lib.hid (Hb1.out.trans ((HU2.out.trans (hU3.mono HU2.out.size)).toBelow (Nat.le_of_lt hlt1)))
  clear hX hR3 hU3
  go_wp2
  go_ret2
  exact ⟨ga, N, gc, A, L, C, Z, g, m, cap, X, rfl, ⟨hN1, hN5, hg3, by omega⟩, HL.out, HT3.out, HX.out, HU3.out⟩
end Go.Proofs.Ytmjbocgoinfamaa
