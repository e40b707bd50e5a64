/- The model's DrawFairSome: drawn bids and item prices. -/
import Derived.Test.YtbbcafmmgllfeaaDrawPricesI
namespace Go.Proofs.Ytbbcafmmgllfeaa
set_option linter.unusedVariables false
set_option linter.unusedSimpArgs false
open Go.RowKit

set_option maxHeartbeats 1600000 in
theorem drawFairSome_any (n c : Nat) (a : Option Addr) (B : Nat → Nat) (w : World) (hn : n ≤ 1048576) (hc : n ≤ c) (hb : RdB w a n B) (hab : 0 < n → ∀ b o, a = some ⟨b, o, none⟩ → b < w.heap.size) :
    Calls Try.prog 14 #[.slice a n c] w (DrewPriced w) := by
  have HB := Lib.hid hb
  have HAL := Lib.hid hab
  clear hb hab
  go_enter Try.func14, Try.ntmps14
  go_wp2_with fail
  refine (l6Open_any n c a _ hn hc).mono ?_
  rintro e w1 ⟨n', c', rfl, hn2, hnn, hR1, hs1, hb1⟩
  have HB1 := Lib.hid ((HB.out.below (Nat.le_refl _) hb1).sub hnn)
  have HR1 := Lib.hid hR1
  have Hb1 := Lib.hid hb1
  have hlt1 : w.heap.size < w1.heap.size := by omega
  have HAL1 := Lib.hid (show 0 < n' → ∀ b o, a = some ⟨b, o, none⟩ → b < w1.heap.size ∧ b ≠ w.heap.size from fun h0 b o e => by have := HAL.out (by omega) b o e; exact ⟨by omega, by omega⟩)
  have HAB := Lib.hid (show 0 < n' → ∀ b o, a = some ⟨b, o, none⟩ → b ≠ w.heap.size from fun h0 b o e => (HAL1.out h0 b o e).2)
  clear hR1 hb1 hs1
  go_wp2_with fail
  refine (l92Bids_any w.heap.size n' c' 0 4 a B _ HR1.out HB1.out HAL1.out hn2 (by omega) (by omega) (by omega)).mono ?_
  rintro e w2 ⟨ga, N, gc, A, L, C, Z, p2, rfl, ⟨hN1, hN4⟩, ⟨hgc, hL, hAp⟩, hT, hR2, hp2, hU2⟩
  have HL := Lib.hid hL
  have HT2 := Lib.hid hT
  have HAp := Lib.hid hAp
  have HR2 := Lib.hid hR2
  have HU2 := Lib.hid hU2
  clear hL hAp hT hR2 hU2
  go_wp2_with fail
  refine (l92Prices_any w.heap.size n' c' p2 N gc a ga B A L C Z w2 HR2.out (HB1.out.but HAL1.out HU2.out) (fun h0 b o e => by have := HAL1.out h0 b o e; have := HU2.out.size; exact ⟨by omega, by omega⟩) hn2 (by omega) hN1 hN4 HL.out HT2.out (fun bb oo e => by have := HAp.out.1 bb oo e; omega)).mono ?_
  rintro e w3 ⟨b, q, d, P, p3, rfl, hq, hP, hPa, hR3, hp3, hU3⟩
  have HP3 := Lib.hid hP
  have HPa := Lib.hid (show ∀ bb oo, 0 < q → b = some ⟨bb, oo, none⟩ → w1.heap.size ≤ bb from fun bb oo h0 e => by have := hPa bb oo h0 e; have := HU2.out.size; omega)
  have HR3 := Lib.hid hR3
  have HT3 := Lib.hid (tab_but HT2.out HAp.out hlt1 hU3)
  have HU3 := Lib.hid (HU2.out.trans (hU3.mono HU2.out.size))
  clear hP hPa hR3 hU3
  have HB3 := Lib.hid (Hb1.out.trans (HU3.out.toBelow (Nat.le_of_lt hlt1)))
  go_wp2
  go_ret2
  exact ⟨ga, N, gc, A, L, C, Z, b, q, d, P, rfl, ⟨hN1, hN4, hgc⟩, hq, HL.out, HT3.out, HP3.out, HB3.out⟩
end Go.Proofs.Ytbbcafmmgllfeaa
