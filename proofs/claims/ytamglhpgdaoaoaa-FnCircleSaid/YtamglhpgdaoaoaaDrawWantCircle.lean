/- The model's DrawWantCircle: drawn wants, and a circle of theirs or some numbers. -/
import Derived.Test.YtamglhpgdaoaoaaDrawOneW
import Derived.Test.YtamglhpgdaoaoaaDrawDifferent
import Derived.Test.YtamglhpgdaoaoaaDrawTab
import Derived.Test.YtamglhpgdaoaoaaSpecWantCircs
namespace Go.Proofs.Ytamglhpgdaoaoaa
set_option linter.unusedVariables false
set_option linter.unusedSimpArgs false
open Go.RowKit

/-- What the draw hands back. -/
def DrewWC (w : World) (e : Ending) (w' : World) : Prop :=
  ∃ g m cap X b q d Y, e = .returned (.tuple #[.slice (some ⟨g, 0, none⟩) m cap, .slice b q d]) ∧ (2 ≤ m ∧ m ≤ 6 ∧ m ≤ cap) ∧ q ≤ 1048576 ∧ Rd w' (some ⟨g, 0, none⟩) m X ∧ Rd w' b q Y ∧ Below w.heap.size w w'

theorem making_cell {tS B gt ct i : Nat} {w : World} {G Cp L : Nat → Nat} {X : Nat → Nat → Int} (h : Making tS B w (.slice (some ⟨gt, 0, none⟩) i ct) i G Cp L X) {x : Nat} (hx : x < i) : w.cell? ⟨gt, x, none⟩ = some (.slice (some ⟨G x, 0, none⟩) (L x) (Cp x)) := by
  have := h.1.cells (g := gt) rfl x (.slice (some ⟨G x, 0, none⟩) (L x) (Cp x)) (by simp [hx])
  rwa [Go.WideShapes.add_plain, Nat.zero_add] at this

set_option maxHeartbeats 3200000 in
theorem drawWantCircle_any (n c : Nat) (a : Option Addr) (B : Nat → Nat) (w : World) (hn : n ≤ 1048576) (hc : n ≤ c) (hb : RdB w a n B) (hab : 0 < n → ∀ b o, a = some ⟨b, o, none⟩ → b < w.heap.size) :
    Calls Try.prog 19 #[.slice a n c] w (DrewWC w) := by
  have HB := Lib.hid hb
  have HAL := Lib.hid hab
  clear hb hab
  go_enter Try.func19, Try.ntmps19
  go_wp2_with fail
  refine (l6Open_any n c a _ hn hc).mono ?_
  rintro e w1 ⟨n', c', rfl, hn2, hnn, hR1, hs1, hb1⟩
  have HB1 := Lib.hid ((HB.out.below (Nat.le_refl _) hb1).sub hnn)
  have HR1 := Lib.hid hR1
  have Hb1 := Lib.hid hb1
  have hlt1 : w.heap.size < w1.heap.size := by omega
  have HAL1 := Lib.hid (show 0 < n' → ∀ b o, a = some ⟨b, o, none⟩ → b < w1.heap.size ∧ b ≠ w.heap.size from fun h0 b o e => by have := HAL.out (by omega) b o e; exact ⟨by omega, by omega⟩)
  have HAB := Lib.hid (show 0 < n' → ∀ b o, a = some ⟨b, o, none⟩ → b ≠ w.heap.size from fun h0 b o e => (HAL1.out h0 b o e).2)
  clear hR1 hb1 hs1
  go_wp2_with fail
  refine (l92Wants_any w.heap.size n' c' 0 6 a B _ HR1.out HB1.out HAL1.out hn2 (by omega) (by omega) (by omega)).mono ?_
  rintro e w2 ⟨g, m, cap, X, p2, rfl, ⟨hm1, hm2⟩, ⟨hg1, hg2, hm3⟩, hX, hR2, hp2, hU2⟩
  have HX2 := Lib.hid hX
  have HR2 := Lib.hid hR2
  have HU2 := Lib.hid hU2
  have hrr := hR2.lt
  clear hX hR2 hU2
  go_wp2_with fail
  refine (specWantIn_any m cap _ X _ (by omega) HX2.out).mono ?_
  rintro e w3 ⟨rfl, hb3⟩
  have HX3 := Lib.hid (HX2.out.below (Nat.le_refl _) hb3)
  have HR3 := Lib.hid (HR2.out.of_block (hb3.block _ hrr))
  have HU3 := Lib.hid (HU2.out.trans (ButR.below (hb3.mono HU2.out.size)))
  have S3 := Lib.hid (show g < w3.heap.size from Nat.lt_of_lt_of_le hg2 hb3.size)
  clear hb3
  by_cases h : IsWants m X
  · have T1 := Lib.hid (tt_of h)
    have HW := Lib.hid h
    rw [T1.out]
    clear h
    go_wp2_with fail
    refine (pick_any w.heap.size n' c' p2 4 a B _ HR3.out (HB1.out.but HAL1.out HU3.out) HAB.out hn2 (by omega) (by omega) (by omega)).mono ?_
    rintro e w4 ⟨x, rfl, hx, hR4, hK4⟩
    have HR4 := Lib.hid hR4
    have HU4 := Lib.hid (HU3.out.trans (ButR.keeps hK4))
    have HX4 := Lib.hid (rd_but HX3.out (by omega) hK4)
    have S4 := Lib.hid (show g < w4.heap.size by rw [show w4.heap.size = w3.heap.size from hK4.size]; exact S3.out)
    have hr4 := hR4.lt
    clear hR4 hK4
    by_cases hx0 : 0 < x
    · have d0 : decide ((0 : Int) < (x : Int)) = true := by simp; omega
      have d1 : decide (0 < x) = true := by simp; omega
      have HC := Lib.hid (fun w' (hb : Below w4.heap.size w4 w') ba cb (hba : ba < w'.heap.size) => l6wAll_any m cap m (some ⟨g, 0, none⟩) X w' HW.out (Nat.le_refl _) (HX4.out.below (Nat.le_refl _) hb) ba cb hba)
      clear hx0 hx
      go_wp2_with fail
      refine (HC.out _ (below_alloc (Below.refl _ _) _) _ _ (by simp)).mono ?_
      rintro e w5 ⟨gt, ct, G, Cp, rfl, hM, hb5⟩
      have HM5 := Lib.hid hM
      have B5 := Lib.hid ((below_alloc (Below.refl w4.heap.size w4) (.cells #[] 3)).trans (hb5.mono (by simp)))
      have SB := Lib.hid (show w4.heap.size ≤ (w4.alloc (.cells #[] 3)).heap.size by simp)
      clear hM hb5
      have HX5 := Lib.hid (HX4.out.below (Nat.le_refl _) B5.out)
      have HR5 := Lib.hid (HR4.out.of_block (B5.out.block _ hr4))
      have HU5 := Lib.hid (HU4.out.trans (ButR.below (B5.out.mono HU4.out.size)))
      have S5 := Lib.hid (show g < w5.heap.size from Nat.lt_of_lt_of_le S4.out B5.out.size)
      have hll := circs_small hm2 (W := X) m
      have hlen := Lib.hid (fun x (hx : x < (circs m X m []).length) => show lenL (circs m X m []) x ≤ m from (circs_at hx).2)
      obtain ⟨LL, hLL⟩ : ∃ LL, LL = circs m X m [] := ⟨_, rfl⟩
      rw [← hLL] at HM5 hll hlen ⊢
      obtain ⟨l, hl⟩ : ∃ l, l = LL.length := ⟨_, rfl⟩
      rw [← hl] at HM5 hll hlen ⊢
      clear hLL hl HC
      clear d0 d1
      have hr5 : w.heap.size < w5.heap.size := HR5.out.lt
      by_cases hl0 : 0 < l
      · have d0 : decide ((0 : Int) < (l : Int)) = true := by simp; omega
        have d1 : decide (0 < l) = true := by simp; omega
        have HPK := Lib.hid (fun w' (hR : RdrAt w' w.heap.size a n' c' (p2 + 1)) (hU : ButR w.heap.size w1.heap.size w1 w') => pick_any w.heap.size n' c' (p2 + 1) l a B w' hR (HB1.out.but HAL1.out hU) HAB.out hn2 (by omega) (by omega) (by omega))
        go_wp2
        go_region_with ((go_at_call 50; refine (pick_any w.heap.size n' c' (p2 + 1) l a B _ (HR5.out.of_block ((Below.refl w5.heap.size w5).drew.block _ hr5)) (HB1.out.but HAL1.out (HU5.out.trans (ButR.below (by repeat (first | exact Below.refl _ _ | refine Below.drew ?_))))) HAB.out hn2 (by omega) (by omega) (by omega)).mono ?_; rintro e w6 ⟨y, rfl, hy, hR6, hK6⟩; have hy1 : (y : Int) < (l : Int) := (by omega); have hy0 : (0 : Int) ≤ (y : Int) := (by omega); have hm6 := making_but (HM5.out.below (Below.refl _ _).drew) (show w.heap.size < _ from Nat.lt_of_lt_of_le hr4 SB.out) hK6; have hc6 := making_cell hm6 hy))
        all_goals
          have HR := Lib.hid (hm6.2.1 y hy).2.2.2
          have HX6 := Lib.hid (rd_but (HX5.out.below (Nat.le_refl _) (Below.refl _ _).drew) (show g ≠ w.heap.size by omega) hK6)
          have HU6 := Lib.hid (Hb1.out.trans (((HU5.out.trans (ButR.below (Below.refl _ _).drew)).trans (ButR.keeps hK6)).toBelow (Nat.le_of_lt hlt1)))
          have HY := Lib.hid (hlen.out y hy)
          clear hm6 hK6 hR6 hc6
          go_wp2_with fail
          go_ret2
          exact ⟨g, m, cap, X, _, _, _, nthL LL y, rfl, ⟨hm1, hm2, hm3⟩, by have := HY.out; omega, HX6.out, HR.out.rd, HU6.out⟩
      · have d0 : decide ((0 : Int) < (l : Int)) = false := by simp; omega
        have d1 : decide (0 < l) = false := by simp; omega
        go_wp2_with fail
        refine (l91Different_any w.heap.size n' c' (p2 + 1) m a B _ HR5.out (HB1.out.but HAL1.out HU5.out) (fun h0 b o e => ⟨by have := HU5.out.size; have := (HAL1.out h0 b o e).1; omega, HAB.out h0 b o e⟩) hn2 (by omega) (by omega)).mono ?_
        rintro e w9 ⟨gd, q, cd, Y, p9, rfl, ⟨hq1, hq2, hq3, hq4⟩, hY, hR9, hp9, hU9⟩
        have HY := Lib.hid hY
        have HXZ := Lib.hid (rd_butR HX5.out (by omega) (by have := S5.out; omega) hU9)
        have HU9 := Lib.hid (Hb1.out.trans ((HU5.out.trans (hU9.mono HU5.out.size)).toBelow (Nat.le_of_lt hlt1)))
        clear hY hR9 hU9
        go_wp2_with fail
        go_ret2
        exact ⟨g, m, cap, X, _, q, cd, Y, rfl, ⟨hm1, hm2, hm3⟩, by omega, HXZ.out, HY.out, HU9.out⟩
    · have d0 : decide ((0 : Int) < (x : Int)) = false := by simp; omega
      have d1 : decide (0 < x) = false := by simp; omega
      go_wp2_with fail
      refine (l91Different_any w.heap.size n' c' (p2 + 1) m a B _ HR4.out (HB1.out.but HAL1.out HU4.out) (fun h0 b o e => ⟨by have := HU4.out.size; have := (HAL1.out h0 b o e).1; omega, HAB.out h0 b o e⟩) hn2 (by omega) (by omega)).mono ?_
      rintro e w9 ⟨gd, q, cd, Y, p9, rfl, ⟨hq1, hq2, hq3, hq4⟩, hY, hR9, hp9, hU9⟩
      have HY := Lib.hid hY
      have HXZ := Lib.hid (rd_butR HX4.out (by omega) (by have := S4.out; omega) hU9)
      have HU9 := Lib.hid (Hb1.out.trans ((HU4.out.trans (hU9.mono HU4.out.size)).toBelow (Nat.le_of_lt hlt1)))
      clear hY hR9 hU9
      go_wp2_with fail
      go_ret2
      exact ⟨g, m, cap, X, _, q, cd, Y, rfl, ⟨hm1, hm2, hm3⟩, by omega, HXZ.out, HY.out, HU9.out⟩
  · have T1 := Lib.hid (tt_no h)
    rw [T1.out]
    clear h
    go_wp2_with fail
    refine (l91Different_any w.heap.size n' c' p2 m a B _ HR3.out (HB1.out.but HAL1.out HU3.out) (fun h0 b o e => ⟨by have := HU3.out.size; have := (HAL1.out h0 b o e).1; omega, HAB.out h0 b o e⟩) hn2 (by omega) (by omega)).mono ?_
    rintro e w9 ⟨gd, q, cd, Y, p9, rfl, ⟨hq1, hq2, hq3, hq4⟩, hY, hR9, hp9, hU9⟩
    have HY := Lib.hid hY
    have HXZ := Lib.hid (rd_butR HX3.out (by omega) (by have := S3.out; omega) hU9)
    have HU9 := Lib.hid (Hb1.out.trans ((HU3.out.trans (hU9.mono HU3.out.size)).toBelow (Nat.le_of_lt hlt1)))
    clear hY hR9 hU9
    go_wp2_with fail
    go_ret2
    exact ⟨g, m, cap, X, _, q, cd, Y, rfl, ⟨hm1, hm2, hm3⟩, by omega, HXZ.out, HY.out, HU9.out⟩
end Go.Proofs.Ytamglhpgdaoaoaa
