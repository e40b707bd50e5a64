/- The model's l92Odd. -/
import Derived.Test.YtimkgplabbcklaaDrawOdds
namespace Go.Proofs.Ytimkgplabbcklaa
set_option linter.unusedVariables false
set_option linter.unusedSimpArgs false
open Go.RowKit

set_option maxHeartbeats 1600000 in
theorem l92Odd_any (n c : Nat) (a : Option Addr) (B : Nat → Nat) (w : World) (hn : n ≤ 1048576) (hc : n ≤ c) (hb : RdB w a n B) (hab : 0 < n → ∀ b o, a = some ⟨b, o, none⟩ → b < w.heap.size) :
    Calls Try.prog 26 #[.slice a n c] w (DrewO w) := by
  have HB := Lib.hid hb
  have HAL := Lib.hid hab
  clear hb hab
  go_enter Try.func26, Try.ntmps26
  go_wp2_with fail
  refine (l6Open_any n c a _ hn hc).mono ?_
  rintro e w1 ⟨n', c', rfl, hn2, hnn, hR1, hs1, hb1⟩
  have HB1 := Lib.hid ((HB.out.below (Nat.le_refl _) hb1).sub hnn)
  have HR1 := Lib.hid hR1
  have Hb1 := Lib.hid hb1
  have hlt1 : w.heap.size < w1.heap.size := by omega
  have HAL1 := Lib.hid (show 0 < n' → ∀ b o, a = some ⟨b, o, none⟩ → b < w1.heap.size ∧ b ≠ w.heap.size from fun h0 b o e => by have := HAL.out (by omega) b o e; exact ⟨by omega, by omega⟩)
  have HAB1 := Lib.hid (show 0 < n' → ∀ b o, a = some ⟨b, o, none⟩ → b ≠ w.heap.size from fun h0 b o e => (HAL1.out h0 b o e).2)
  have hrl1 := hR1.lt
  clear hR1 hb1 hs1
  go_wp2_with fail
  refine (pick_any w.heap.size n' c' 0 5 a B _ HR1.out HB1.out HAB1.out hn2 (by omega) (by omega) (by omega)).mono ?_
  rintro e w2 ⟨x, rfl, hx, hR2, hK2⟩
  have HR2 := Lib.hid hR2
  have HU2 := Lib.hid (ButR.keeps (B := w1.heap.size) hK2)
  have S2 := Lib.hid (show w2.heap.size = w1.heap.size from hK2.size)
  obtain ⟨q, hq⟩ : ∃ q, q = 2 + x := ⟨_, rfl⟩
  have hq9 : q ≤ 9 := by omega
  have hqw : IntKind.i64.wrap ((2 : Int) + (x : Int)) = (q : Int) := by rw [IntWalk.i64_in _ (by omega)]; omega
  have hqv : wrap64 ((2 : Int) + (x : Int)) = (q : Int) := by rw [IntWalk.wrap64_in _ (by omega)]; omega
  have hqs : IntKind.i64.wrap (q : Int) = (q : Int) := IntWalk.i64_in _ (by omega)
  have hq1 : 2 ≤ q := by omega
  have hq7 : q ≤ 6 := by omega
  clear hR2 hK2 hq
  go_wp2_with fail
  clear hqw hqv hqs
  refine (l92Odds_any w.heap.size n' c' 1 q a B _ HR2.out (HB1.out.but HAL1.out HU2.out) (fun h0 b o e => by have := HAL1.out h0 b o e; have := S2.out; exact ⟨by omega, by omega⟩) hn2 (by omega) (by omega) (by omega)).mono ?_
  rintro e w3 ⟨g, d, X, p3, rfl, ⟨hg1, hg2, hgd⟩, hX, hR3, hp3, hU3⟩
  have HX := Lib.hid hX
  have HR3 := Lib.hid hR3
  have HU3 := Lib.hid (HU2.out.trans (hU3.mono (by have := S2.out; omega)))
  clear hX hR3 hU3
  go_wp2
  go_ret
  exact ⟨g, q, d, X, rfl, ⟨by omega, by omega, hgd⟩, HX.out, (Hb1.out.trans (HU3.out.toBelow (Nat.le_of_lt hlt1)))⟩
end Go.Proofs.Ytimkgplabbcklaa
