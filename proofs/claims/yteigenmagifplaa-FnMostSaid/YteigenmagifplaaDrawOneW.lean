/- The model's l92One: drawn wants. -/
import Derived.Test.YteigenmagifplaaDrawWants
namespace Go.Proofs.Yteigenmagifplaa
set_option linter.unusedVariables false
set_option linter.unusedSimpArgs false
open Go.RowKit

/-- What a draw of wants hands back. -/
def DrewW (w : World) (e : Ending) (w' : World) : Prop :=
  ∃ g m cap X, e = .returned (.slice (some ⟨g, 0, none⟩) m cap) ∧ (2 ≤ m ∧ m ≤ 6 ∧ m ≤ cap) ∧ Rd w' (some ⟨g, 0, none⟩) m X ∧ Below w.heap.size w w'

set_option maxHeartbeats 800000 in
theorem l92One_any (n c : Nat) (a : Option Addr) (B : Nat → Nat) (w : World) (hn : n ≤ 1048576) (hc : n ≤ c) (hb : RdB w a n B) (hab : 0 < n → ∀ b o, a = some ⟨b, o, none⟩ → b < w.heap.size) :
    Calls Try.prog 44 #[.slice a n c] w (DrewW w) := by
  have HB := Lib.hid hb
  have HAL := Lib.hid hab
  clear hb hab
  go_enter Try.func44, Try.ntmps44
  go_wp2_with fail
  refine (l6Open_any n c a _ hn hc).mono ?_
  rintro e w1 ⟨n', c', rfl, hn2, hnn, hR1, hs1, hb1⟩
  have HB1 := Lib.hid ((HB.out.below (Nat.le_refl _) hb1).sub hnn)
  have HR1 := Lib.hid hR1
  have Hb1 := Lib.hid hb1
  have hlt1 : w.heap.size < w1.heap.size := by omega
  have HAL1 := Lib.hid (show 0 < n' → ∀ b o, a = some ⟨b, o, none⟩ → b < w1.heap.size ∧ b ≠ w.heap.size from fun h0 b o e => by have := HAL.out (by omega) b o e; exact ⟨by omega, by omega⟩)
  clear hR1 hb1 hs1
  go_wp2_with fail
  refine (l92Wants_any w.heap.size n' c' 0 6 a B _ HR1.out HB1.out HAL1.out hn2 (by omega) (by omega) (by omega)).mono ?_
  rintro e w2 ⟨g, m, cap, X, p2, rfl, ⟨hm1, hm2⟩, ⟨_, _, hm3⟩, hX, hR2, hp2, hU2⟩
  have HX := Lib.hid hX
  have HU := Lib.hid (Hb1.out.trans (hU2.toBelow (Nat.le_of_lt hlt1)))
  clear hX hR2 hU2
  go_wp2
  go_ret
  exact ⟨g, m, cap, X, rfl, ⟨hm1, hm2, hm3⟩, HX.out, HU.out⟩
end Go.Proofs.Yteigenmagifplaa
