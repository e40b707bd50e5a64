/- The model's DrawHouseBlocks: drawn wishes, a drawn row and a drawn set. -/
import Derived.Test.YtfhkbjheleojmaaDoorDrawGiven
namespace Go.Proofs.YtfhkbjheleojmaaDoor
set_option linter.unusedVariables false
open Go.RowKit

theorem results_three {fn : Func} {t u v : Tmp} (h : fn.results = #[.tmp t, .tmp u, .tmp v]) (tmps : Array Value) (P : Program) (w : World) :
    (results fn tmps).run P w = .ok (.tuple #[tmps.getD t undef, tmps.getD u undef, tmps.getD v undef]) w := by
  simp [results, h]
/-- What it hands back. -/
def DrewSet (w : World) (e : Ending) (w' : World) : Prop :=
  ∃ ga N gc A L C Z b m d X x, e = .returned (.tuple #[.slice ga N gc, .slice b m d, .int .i64 x]) ∧ ((1 ≤ N ∧ N ≤ 5) ∧ m ≤ d ∧ m ≤ 6 ∧ -100 ≤ x ∧ x ≤ 100) ∧ (∀ s, s < N → L s ≤ 5) ∧ Tab w' ga N A L C Z ∧ Rd w' b m X ∧ Below w.heap.size w w'

set_option maxHeartbeats 3200000 in
theorem drawHouseBlocks_any (n c : Nat) (a : Option Addr) (B : Nat → Nat) (w : World) (hn : n ≤ 1048576) (hc : n ≤ c) (hb : RdB w a n B) (hab : 0 < n → ∀ b o, a = some ⟨b, o, none⟩ → b < w.heap.size) :
    Calls Tryd.prog 28 #[.slice a n c] w (DrewSet w) := by
  have HB := Lib.hid hb
  have HAL := Lib.hid hab
  clear hb hab
  go_enter Tryd.func28, Tryd.ntmps28
  go_wp2_with fail
  refine (l6Open_any n c a _ hn hc).mono ?_
  rintro e w1 ⟨n', c', rfl, hn2, hnn, hR1, hs1, hb1⟩
  have HB1 := Lib.hid ((HB.out.below (Nat.le_refl _) hb1).sub hnn)
  have HR1 := Lib.hid hR1
  have Hb1 := Lib.hid hb1
  have hlt1 : w.heap.size < w1.heap.size := by omega
  have HAL1 := Lib.hid (show 0 < n' → ∀ b o, a = some ⟨b, o, none⟩ → b < w1.heap.size ∧ b ≠ w.heap.size from fun h0 b o e => by have := HAL.out (by omega) b o e; exact ⟨by omega, by omega⟩)
  have HAB := Lib.hid (show 0 < n' → ∀ b o, a = some ⟨b, o, none⟩ → b ≠ w.heap.size from fun h0 b o e => (HAL1.out h0 b o e).2)
  clear hR1 hb1 hs1
  go_wp2_with fail
  refine (l91Given_any w.heap.size n' c' 0 4 a B _ HR1.out HB1.out HAL1.out hn2 (by omega) (by omega) (by omega)).mono ?_
  rintro e w2 ⟨ga, N, gc, A, L, C, Z, b, m, d, X, p2, rfl, ⟨⟨hN1, hN5⟩, hmd, hm6⟩, ⟨hL, hAp, hAi⟩, hT, hX, hR2, hp2, hU2⟩
  have HL := Lib.hid hL
  have HT2 := Lib.hid hT
  have HX2 := Lib.hid hX
  have HAp := Lib.hid hAp
  have HAi := Lib.hid hAi
  have HR2 := Lib.hid hR2
  have HU2 := Lib.hid hU2
  clear hL hAp hT hR2 hU2 hX hAi
  have hwp := wrap_pow (show N < 62 by omega)
  have g2 : (2 : Nat) ^ N ≤ 32 := Nat.pow_le_pow_right (show 0 < 2 by omega) hN5
  have g1 : 1 ≤ (2 : Nat) ^ N := Nat.pow_pos (by omega)
  obtain ⟨E, hE⟩ : ∃ E, E = 2 ^ N := ⟨_, rfl⟩
  rw [← hE] at hwp g1 g2
  clear hE
  have g3 : E ≤ 1000000 := Nat.le_trans g2 (by omega)
  have g4 : p2 ≤ 1000000 := by clear hwp; omega
  go_wp2_with fail
  refine (pick_any w.heap.size n' c' p2 E a B _ HR2.out (HB1.out.but HAL1.out HU2.out) HAB.out hn2 g4 g1 g3).mono ?_
  rintro e w3 ⟨x, rfl, hx, hR3, hK3⟩
  clear hwp
  have HR3 := Lib.hid hR3
  have HU3 := Lib.hid (HU2.out.trans (ButR.keeps hK3))
  have HT3 := Lib.hid (tab_but HT2.out HAp.out hlt1 (ButR.keeps hK3))
  have HX3 := Lib.hid (rdA_but HX2.out HAi.out hlt1 (ButR.keeps hK3))
  clear hR3 hK3
  go_wp2_with fail
  refine (pick_any w.heap.size n' c' (p2 + 1) 24 a B _ HR3.out (HB1.out.but HAL1.out HU3.out) HAB.out hn2 (by omega) (by omega) (by omega)).mono ?_
  rintro e w5 ⟨y, rfl, hy, hR5, hK5⟩
  have HU5 := Lib.hid (Hb1.out.trans ((HU3.out.trans (ButR.keeps hK5)).toBelow (Nat.le_of_lt hlt1)))
  have HT5 := Lib.hid (tab_but HT3.out HAp.out hlt1 (ButR.keeps hK5))
  have HX5 := Lib.hid (rdA_but HX3.out HAi.out hlt1 (ButR.keeps hK5))
  have hy1 : 0 ≤ (y : Int) / 23 := by omega
  have hy2 : (y : Int) / 23 ≤ 1 := by omega
  clear hR5 hK5
  go_wp2
  (try simp only [Exit.inBlock, Exit.then])
  refine bodyPost_ret (results_three rfl _ _ _) rfl ?_
  have hx1 : (x : Int) ≤ 31 := by omega
  have hwx : wrap64 ((x : Int) - (y : Int) / 23) = (x : Int) - (y : Int) / 23 := IntWalk.wrap64_in _ ⟨by omega, by omega⟩
  exact ⟨ga, N, gc, A, L, C, Z, b, m, d, X, (x : Int) - (y : Int) / 23, by rw [← hwx]; rfl, ⟨⟨hN1, hN5⟩, hmd, hm6, by omega, by omega⟩, HL.out, HT5.out, HX5.out, HU5.out⟩
end Go.Proofs.YtfhkbjheleojmaaDoor
