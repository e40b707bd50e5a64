/- The model's DrawHouseGiving: a drawn number and a drawn row. -/
import Derived.Test.YtmjbocgoinfamaaDrawOrder
namespace Go.Proofs.Ytmjbocgoinfamaa
set_option linter.unusedVariables false
open Go.RowKit

/-- What it hands back: a small number, and a row of six numbers at most. -/
def DrewNum (w : World) (e : Ending) (w' : World) : Prop :=
  ∃ (z : Int) (g k cap : Nat) (X : Nat → Int), e = .returned (.tuple #[.int .i64 z, .slice (some ⟨g, 0, none⟩) k cap]) ∧ ((-10 ≤ z ∧ z ≤ 10) ∧ k ≤ cap ∧ k ≤ 6) ∧ Rd w' (some ⟨g, 0, none⟩) k X ∧ Below w.heap.size w w'

set_option maxHeartbeats 3200000 in
theorem drawHouseGiving_any (n c : Nat) (a : Option Addr) (B : Nat → Nat) (w : World) (hn : n ≤ 1048576) (hc : n ≤ c) (hb : RdB w a n B) (hab : 0 < n → ∀ b o, a = some ⟨b, o, none⟩ → b < w.heap.size) :
    Calls Try.prog 43 #[.slice a n c] w (DrewNum w) := by
  have HB := Lib.hid hb
  have HAL := Lib.hid hab
  clear hb hab
  go_enter Try.func43, Try.ntmps43
  go_wp2_with fail
  refine (l6Open_any n c a _ hn hc).mono ?_
  rintro e w1 ⟨n', c', rfl, hn2, hnn, hR1, hs1, hb1⟩
  have HB1 := Lib.hid ((HB.out.below (Nat.le_refl _) hb1).sub hnn)
  have HR1 := Lib.hid hR1
  have Hb1 := Lib.hid hb1
  have hlt1 : w.heap.size < w1.heap.size := by omega
  have HAL1 := Lib.hid (show 0 < n' → ∀ b o, a = some ⟨b, o, none⟩ → b < w1.heap.size ∧ b ≠ w.heap.size from fun h0 b o e => by have := HAL.out (by omega) b o e; exact ⟨by omega, by omega⟩)
  have HAB := Lib.hid (show 0 < n' → ∀ b o, a = some ⟨b, o, none⟩ → b ≠ w.heap.size from fun h0 b o e => (HAL1.out h0 b o e).2)
  clear hR1 hb1 hs1
  go_wp2_with fail
  refine (pick_any w.heap.size n' c' 0 4 a B _ HR1.out HB1.out HAB.out hn2 (by omega) (by omega) (by omega)).mono ?_
  rintro e w2 ⟨x, rfl, hx, hR2, hK2⟩
  have HR2 := Lib.hid hR2
  have HU2 := Lib.hid (ButR.keeps (B := w1.heap.size) hK2)
  clear hR2 hK2
  go_wp2_with fail
  refine (pick_any w.heap.size n' c' (0 + 1) 24 a B _ HR2.out (HB1.out.but HAL1.out HU2.out) HAB.out hn2 (by omega) (by omega) (by omega)).mono ?_
  rintro e w3 ⟨y, rfl, hy, hR3, hK3⟩
  have HR3 := Lib.hid hR3
  have HU3 := Lib.hid (HU2.out.trans (ButR.keeps hK3))
  have hy1 : 0 ≤ (y : Int) / 23 := by omega
  have hy2 : (y : Int) / 23 ≤ 1 := by omega
  clear hR3 hK3
  go_wp2_with fail
  refine (pick_any w.heap.size n' c' (0 + 1 + 1) 24 a B _ HR3.out (HB1.out.but HAL1.out HU3.out) HAB.out hn2 (by omega) (by omega) (by omega)).mono ?_
  rintro e w4 ⟨v, rfl, hv, hR4, hK4⟩
  have HR4 := Lib.hid hR4
  have HU4 := Lib.hid (HU3.out.trans (ButR.keeps hK4))
  have hv1 : 0 ≤ (v : Int) / 23 := by omega
  have hv2 : (v : Int) / 23 ≤ 1 := by omega
  clear hR4 hK4
  go_wp2_with fail
  rw [show ((2 : Int) + (x : Int)) = ((2 + x : Nat) : Int) by omega]
  refine (l91Order_any w.heap.size n' c' (0 + 1 + 1 + 1) (2 + x) a B _ HR4.out (HB1.out.but HAL1.out HU4.out) (fun h0 b o e => ⟨by have := HU4.out.size; have := (HAL1.out h0 b o e).1; omega, HAB.out h0 b o e⟩) hn2 (by omega) (by omega)).mono ?_
  rintro e w5 ⟨g, k, cap, X, p5, rfl, ⟨hg1, hg2, hg3, hg4⟩, hX, hR5, hp5, hU5⟩
  have HX := Lib.hid hX
  have HU5 := Lib.hid (Hb1.out.trans ((HU4.out.trans (hU5.mono HU4.out.size)).toBelow (Nat.le_of_lt hlt1)))
  clear hX hR5 hU5
  go_wp2
  go_ret2
  exact ⟨_, g, k, cap, X, rfl, ⟨⟨by omega, by omega⟩, hg3, by omega⟩, HX.out, HU5.out⟩
end Go.Proofs.Ytmjbocgoinfamaa
