/- The model's DrawPriceIn: drawn prices. -/
import Derived.Test.YtmjbocgoinfamaaDrawRow
namespace Go.Proofs.Ytmjbocgoinfamaa
set_option linter.unusedVariables false
open Go.RowKit

set_option maxHeartbeats 1600000 in
theorem drawPriceIn_any (n c : Nat) (a : Option Addr) (B : Nat → Nat) (w : World) (hn : n ≤ 1048576) (hc : n ≤ c) (hb : RdB w a n B) (hab : 0 < n → ∀ b o, a = some ⟨b, o, none⟩ → b < w.heap.size) :
    Calls Try.prog 39 #[.slice a n c] w (DrewRowTop 1 5 w) := by
  have HB := Lib.hid hb
  have HAL := Lib.hid hab
  clear hb hab
  go_enter Try.func39, Try.ntmps39
  go_wp2_with fail
  refine (l6Open_any n c a _ hn hc).mono ?_
  rintro e w1 ⟨n', c', rfl, hn2, hnn, hR1, hs1, hb1⟩
  have HB1 := Lib.hid ((HB.out.below (Nat.le_refl _) hb1).sub hnn)
  have HR1 := Lib.hid hR1
  have Hb1 := Lib.hid hb1
  have hlt1 : w.heap.size < w1.heap.size := by omega
  have HAB := Lib.hid (show 0 < n' → ∀ b o, a = some ⟨b, o, none⟩ → b ≠ w.heap.size from fun h0 b o e => Nat.ne_of_lt (HAL.out (by omega) b o e))
  have HAL1 := Lib.hid (show 0 < n' → ∀ b o, a = some ⟨b, o, none⟩ → b < w1.heap.size ∧ b ≠ w.heap.size from fun h0 b o e => ⟨by have := HAL.out (by omega) b o e; omega, HAB.out h0 b o e⟩)
  clear hR1 hb1 hs1
  go_wp2_with fail
  refine (pick_any w.heap.size n' c' 0 5 a B _ HR1.out HB1.out HAB.out hn2 (by omega) (by omega) (by omega)).mono ?_
  rintro e w2 ⟨x, rfl, hx, hR2, hK2⟩
  have HR2 := Lib.hid hR2
  have HU2 := Lib.hid (ButR.keeps (B := w1.heap.size) hK2)
  have HE2 := Lib.hid hK2.size
  clear hR2 hK2
  go_wp2_with fail
  rw [show ((1 : Int) + (x : Int)) = ((1 + x : Nat) : Int) by omega]
  refine (l91Prices_any w.heap.size n' c' (0 + 1) (1 + x) a B _ HR2.out (HB1.out.but HAL1.out HU2.out) (fun h0 b o e => by rw [HE2.out]; exact HAL1.out h0 b o e) hn2 (by omega) (by omega) (by omega)).mono ?_
  rintro e w3 ⟨g, cap, X, p3, rfl, ⟨hg1, hg2, hg3⟩, hX, hR3, hp3, hU3⟩
  have HU3 := Lib.hid (HU2.out.trans (hU3.mono (Nat.le_of_eq HE2.out.symm)))
  have HX := Lib.hid hX
  clear hX hR3 hU3
  go_wp2
  go_ret
  exact ⟨g, 1 + x, cap, X, rfl, ⟨by omega, by omega, hg3⟩, HX.out, Hb1.out.trans (HU3.out.toBelow (Nat.le_of_lt hlt1))⟩
end Go.Proofs.Ytmjbocgoinfamaa
