/- The model's DrawFairCount: drawn bids with few items. -/
import Derived.Test.YtaipodnhnekpjaaDrawBid
namespace Go.Proofs.Ytaipodnhnekpjaa
set_option linter.unusedVariables false
set_option linter.unusedSimpArgs false
open Go.RowKit

set_option maxHeartbeats 1600000 in
theorem drawFairCount_any (n c : Nat) (a : Option Addr) (B : Nat → Nat) (w : World) (hn : n ≤ 1048576) (hc : n ≤ c) (hb : RdB w a n B) (hab : 0 < n → ∀ b o, a = some ⟨b, o, none⟩ → b < w.heap.size) :
    Calls Try.prog 42 #[.slice a n c] w (DrewBidsTop w) := by
  have HB := Lib.hid hb
  have HAL := Lib.hid hab
  clear hb hab
  go_enter Try.func42, Try.ntmps42
  go_wp2_with fail
  refine (l6Open_any n c a _ hn hc).mono ?_
  rintro e w1 ⟨n', c', rfl, hn2, hnn, hR1, hs1, hb1⟩
  have HB1 := Lib.hid ((HB.out.below (Nat.le_refl _) hb1).sub hnn)
  have HR1 := Lib.hid hR1
  have Hb1 := Lib.hid hb1
  have hlt1 : w.heap.size < w1.heap.size := by omega
  have HAL1 := Lib.hid (show 0 < n' → ∀ b o, a = some ⟨b, o, none⟩ → b < w1.heap.size ∧ b ≠ w.heap.size from fun h0 b o e => by have := HAL.out (by omega) b o e; exact ⟨by omega, by omega⟩)
  have HAB := Lib.hid (show 0 < n' → ∀ b o, a = some ⟨b, o, none⟩ → b ≠ w.heap.size from fun h0 b o e => (HAL1.out h0 b o e).2)
  clear hR1 hb1 hs1
  go_wp2_with fail
  refine (pick_any w.heap.size n' c' 0 24 a B _ HR1.out HB1.out HAB.out hn2 (by omega) (by omega) (by omega)).mono ?_
  rintro e w5 ⟨y, rfl, hy, hR5, hK5⟩
  have HR5 := Lib.hid hR5
  have HU5 := Lib.hid (show ButR w.heap.size w1.heap.size w1 w5 from ButR.keeps hK5)
  have hs5 := hK5.size
  have hdy : (y : Int).tdiv 23 = (y : Int) / 23 := Int.tdiv_eq_ediv_of_nonneg (by omega)
  have hy1 : 0 ≤ (y : Int) / 23 := by omega
  have hy2 : (y : Int) / 23 ≤ 1 := by omega
  have HAL5 := Lib.hid (show 0 < n' → ∀ b o, a = some ⟨b, o, none⟩ → b < w5.heap.size ∧ b ≠ w.heap.size from fun h0 b o e => by rw [hs5]; exact HAL1.out h0 b o e)
  have S5 := Lib.hid hs5
  clear hR5 hK5 hs5
  go_wp2_with fail
  rw [show (2 + (y : Int) / 23) = ((2 + y / 23 : Nat) : Int) by omega]
  refine (l92Bids_any w.heap.size n' c' 1 (2 + y / 23) a B _ HR5.out (HB1.out.but HAL1.out HU5.out) HAL5.out hn2 (by omega) (by omega) (by omega)).mono ?_
  rintro e w2 ⟨ga, N, gc, A, L, C, Z, p2, rfl, ⟨hN1, hN4⟩, ⟨hgc, hL, hAp⟩, hT, hR2, hp2, hU2⟩
  have HL := Lib.hid hL
  have HT2 := Lib.hid hT
  have HAp := Lib.hid hAp
  have HR2 := Lib.hid hR2
  have HU2 := Lib.hid (Hb1.out.trans ((HU5.out.trans (hU2.mono (by rw [S5.out]; exact Nat.le_refl _))).toBelow (Nat.le_of_lt hlt1)))
  clear hL hAp hT hR2 hU2
  obtain ⟨b0, o0, rfl, _⟩ := HT2.out 0 hN1
  by_cases h3 : N > 3
  · have d1 : decide ((N : Int) > 3) = true := by simp; omega
    have hg3 : (3 : Int) ≤ (gc : Int) := by omega
    have hg3' : 3 ≤ gc := by omega
    go_wp2
    go_ret
    exact ⟨some ⟨b0, o0, none⟩, 3, gc, A, L, C, Z, rfl, ⟨by omega, by omega, by omega⟩, fun s hs => HL.out s (by omega), fun s hs => HT2.out s (by omega), HU2.out⟩
  · have d1 : decide ((N : Int) > 3) = false := by simp; omega
    go_wp2
    go_ret
    exact ⟨some ⟨b0, o0, none⟩, N, gc, A, L, C, Z, rfl, ⟨hN1, hN4, hgc⟩, HL.out, HT2.out, HU2.out⟩
end Go.Proofs.Ytaipodnhnekpjaa
