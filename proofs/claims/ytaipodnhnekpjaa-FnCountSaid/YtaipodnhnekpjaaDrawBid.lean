/- The model's l92Bid: drawn bids. -/
import Derived.Test.YtaipodnhnekpjaaDrawBids
namespace Go.Proofs.Ytaipodnhnekpjaa
set_option linter.unusedVariables false
set_option linter.unusedSimpArgs false
open Go.RowKit

/-- Drawn bids: a table of one to four rows, of one to five numbers. -/
def DrewBidsTop (w : World) (e : Ending) (w' : World) : Prop :=
  ∃ (ga : Option Addr) (N gc : Nat) (A : Nat → Option Addr) (L C : Nat → Nat) (Z : Nat → Nat → Int), e = .returned (.slice ga N gc) ∧ (1 ≤ N ∧ N ≤ 4 ∧ N ≤ gc) ∧ (∀ s, s < N → 1 ≤ L s ∧ L s ≤ 5) ∧ Tab w' ga N A L C Z ∧ Below w.heap.size w w'

set_option maxHeartbeats 1600000 in
theorem l92Bid_any (n c : Nat) (a : Option Addr) (B : Nat → Nat) (w : World) (hn : n ≤ 1048576) (hc : n ≤ c) (hb : RdB w a n B) (hab : 0 < n → ∀ b o, a = some ⟨b, o, none⟩ → b < w.heap.size) :
    Calls Try.prog 78 #[.slice a n c] w (DrewBidsTop w) := by
  have HB := Lib.hid hb
  have HAL := Lib.hid hab
  clear hb hab
  go_enter Try.func78, Try.ntmps78
  go_wp2_with fail
  refine (l6Open_any n c a _ hn hc).mono ?_
  rintro e w1 ⟨n', c', rfl, hn2, hnn, hR1, hs1, hb1⟩
  have HB1 := Lib.hid ((HB.out.below (Nat.le_refl _) hb1).sub hnn)
  have HR1 := Lib.hid hR1
  have Hb1 := Lib.hid hb1
  have hlt1 : w.heap.size < w1.heap.size := by omega
  have HAL1 := Lib.hid (show 0 < n' → ∀ b o, a = some ⟨b, o, none⟩ → b < w1.heap.size ∧ b ≠ w.heap.size from fun h0 b o e => by have := HAL.out (by omega) b o e; exact ⟨by omega, by omega⟩)
  have HAB := Lib.hid (show 0 < n' → ∀ b o, a = some ⟨b, o, none⟩ → b ≠ w.heap.size from fun h0 b o e => (HAL1.out h0 b o e).2)
  clear hR1 hb1 hs1
  go_wp2_with fail
  refine (l92Bids_any w.heap.size n' c' 0 4 a B _ HR1.out HB1.out HAL1.out hn2 (by omega) (by omega) (by omega)).mono ?_
  rintro e w2 ⟨ga, N, gc, A, L, C, Z, p2, rfl, ⟨hN1, hN4⟩, ⟨hgc, hL, hAp⟩, hT, hR2, hp2, hU2⟩
  have HL := Lib.hid hL
  have HT2 := Lib.hid hT
  have HAp := Lib.hid hAp
  have HR2 := Lib.hid hR2
  have HU2 := Lib.hid hU2
  clear hL hAp hT hR2 hU2
  have HU := Lib.hid (Hb1.out.trans (HU2.out.toBelow (Nat.le_of_lt hlt1)))
  go_wp2
  go_ret
  exact ⟨ga, N, gc, A, L, C, Z, rfl, ⟨hN1, hN4, hgc⟩, HL.out, HT2.out, HU.out⟩
end Go.Proofs.Ytaipodnhnekpjaa
