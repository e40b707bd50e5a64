/- The model's l92Short: drawn wants and a number. -/
import Derived.Test.YteigenmagifplaaDrawOneW
namespace Go.Proofs.Yteigenmagifplaa
set_option linter.unusedVariables false
set_option linter.unusedSimpArgs false
open Go.RowKit

/-- What a draw of wants and a number hands back. -/
def DrewWK (w : World) (e : Ending) (w' : World) : Prop :=
  ∃ g m cap X k, e = .returned (.tuple #[.slice (some ⟨g, 0, none⟩) m cap, .int .i64 k]) ∧ (2 ≤ m ∧ m ≤ 6 ∧ m ≤ cap) ∧ (0 ≤ k ∧ k ≤ 10) ∧ Rd w' (some ⟨g, 0, none⟩) m X ∧ Below w.heap.size w w'

set_option maxHeartbeats 1600000 in
theorem l92Short_any (n c : Nat) (a : Option Addr) (B : Nat → Nat) (w : World) (hn : n ≤ 1048576) (hc : n ≤ c) (hb : RdB w a n B) (hab : 0 < n → ∀ b o, a = some ⟨b, o, none⟩ → b < w.heap.size) :
    Calls Try.prog 32 #[.slice a n c] w (DrewWK w) := by
  have HB := Lib.hid hb
  have HAL := Lib.hid hab
  clear hb hab
  go_enter Try.func32, Try.ntmps32
  go_wp2_with fail
  refine (l6Open_any n c a _ hn hc).mono ?_
  rintro e w1 ⟨n', c', rfl, hn2, hnn, hR1, hs1, hb1⟩
  have HB1 := Lib.hid ((HB.out.below (Nat.le_refl _) hb1).sub hnn)
  have HR1 := Lib.hid hR1
  have Hb1 := Lib.hid hb1
  have hlt1 : w.heap.size < w1.heap.size := by omega
  have HAL1 := Lib.hid (show 0 < n' → ∀ b o, a = some ⟨b, o, none⟩ → b < w1.heap.size ∧ b ≠ w.heap.size from fun h0 b o e => by have := HAL.out (by omega) b o e; exact ⟨by omega, by omega⟩)
  have HAB := Lib.hid (show 0 < n' → ∀ b o, a = some ⟨b, o, none⟩ → b ≠ w.heap.size from fun h0 b o e => (HAL1.out h0 b o e).2)
  clear hR1 hb1 hs1
  go_wp2_with fail
  refine (l92Wants_any w.heap.size n' c' 0 6 a B _ HR1.out HB1.out HAL1.out hn2 (by omega) (by omega) (by omega)).mono ?_
  rintro e w2 ⟨g, m, cap, X, p2, rfl, ⟨hm1, hm2⟩, ⟨hg1, hg2, hm3⟩, hX, hR2, hp2, hU2⟩
  have HX := Lib.hid hX
  have HR2 := Lib.hid hR2
  have HU2 := Lib.hid hU2
  clear hX hR2 hU2
  by_cases hc2 : (1 : Int) < (m : Int) - 1
  have HPK := Lib.hid (show Calls Try.prog 55 #[.pointer (some ⟨w.heap.size, 0, none⟩), .int .i64 ((m : Int) - 1)] w2 (Picked w.heap.size a n' c' p2 (m - 1) w2) from by rw [show ((m : Int) - 1 : Int) = ((m - 1 : Nat) : Int) by omega]; exact pick_any w.heap.size n' c' p2 (m - 1) a B _ HR2.out (HB1.out.but HAL1.out HU2.out) HAB.out hn2 (by omega) (by omega) (by omega))
  go_wp2_with fail
  refine HPK.out.mono ?_
  rotate_left
  have HPK := Lib.hid (show Calls Try.prog 55 #[.pointer (some ⟨w.heap.size, 0, none⟩), .int .i64 (1)] w2 (Picked w.heap.size a n' c' p2 (m - 1) w2) from by rw [show (1 : Int) = ((m - 1 : Nat) : Int) by omega]; exact pick_any w.heap.size n' c' p2 (m - 1) a B _ HR2.out (HB1.out.but HAL1.out HU2.out) HAB.out hn2 (by omega) (by omega) (by omega))
  go_wp2_with fail
  refine HPK.out.mono ?_
  rotate_left
  all_goals (
    clear hc2 HPK
    rintro e w3 ⟨x, rfl, hx, hR3, hK3⟩
    have HR3 := Lib.hid hR3
    have HU3 := Lib.hid (HU2.out.trans (ButR.keeps hK3))
    have HX3 := Lib.hid (rd_but HX.out (by omega) hK3)
    have hx5 : x ≤ 5 := by omega
    clear hR3 hK3 hx
    go_wp2_with fail
    refine (pick_any w.heap.size n' c' (p2 + 1) 24 a B _ HR3.out (HB1.out.but HAL1.out HU3.out) HAB.out hn2 (by omega) (by omega) (by omega)).mono ?_
    rintro e w4 ⟨y, rfl, hy, hR4, hK4⟩
    have HR4 := Lib.hid hR4
    have HU4 := Lib.hid (HU3.out.trans (ButR.keeps hK4))
    have HX4 := Lib.hid (rd_but HX3.out (by omega) hK4)
    clear hR4 hK4
    have hdy : (y : Int).tdiv 23 = (y : Int) / 23 := Int.tdiv_eq_ediv_of_nonneg (by omega)
    have hy1 : 0 ≤ (y : Int) / 23 := by omega
    have hy2 : (y : Int) / 23 ≤ 1 := by omega
    go_wp2_with fail
    refine (pick_any w.heap.size n' c' (p2 + 1 + 1) 24 a B _ HR4.out (HB1.out.but HAL1.out HU4.out) HAB.out hn2 (by omega) (by omega) (by omega)).mono ?_
    rintro e w5 ⟨z, rfl, hz, hR5, hK5⟩
    have HU5 := Lib.hid (HU4.out.trans (ButR.keeps hK5))
    have HX5 := Lib.hid (rd_but HX4.out (by omega) hK5)
    clear hR5 hK5
    have hdz : (z : Int).tdiv 23 = (z : Int) / 23 := Int.tdiv_eq_ediv_of_nonneg (by omega)
    have hz1 : 0 ≤ (z : Int) / 23 := by omega
    have hz2 : (z : Int) / 23 ≤ 1 := by omega
    have hw1 : wrap64 ((2 : Int) + (x : Int) + (y : Int) / 23 - (z : Int) / 23) = (2 : Int) + (x : Int) + (y : Int) / 23 - (z : Int) / 23 := IntWalk.wrap64_in _ (by omega)
    go_wp2_with fail
    go_ret2
    exact ⟨g, m, cap, X, _, rfl, ⟨hm1, hm2, hm3⟩, ⟨by omega, by omega⟩, HX5.out, Hb1.out.trans (HU5.out.toBelow (Nat.le_of_lt hlt1))⟩)
end Go.Proofs.Yteigenmagifplaa
