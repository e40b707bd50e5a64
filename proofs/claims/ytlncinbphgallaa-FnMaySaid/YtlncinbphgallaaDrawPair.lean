/- The model's l92Pair: drawn wishes, a drawn row, two drawn numbers. -/
import Derived.Test.YtlncinbphgallaaDrawGiven
namespace Go.Proofs.Ytlncinbphgallaa
set_option linter.unusedVariables false
open Go.RowKit

theorem results_four {fn : Func} {t u v x : Tmp} (h : fn.results = #[.tmp t, .tmp u, .tmp v, .tmp x]) (tmps : Array Value) (P : Program) (w : World) :
    (results fn tmps).run P w = .ok (.tuple #[tmps.getD t undef, tmps.getD u undef, tmps.getD v undef, tmps.getD x undef]) w := by
  simp [results, h]

/-- What it hands back. -/
def DrewPair (w : World) (e : Ending) (w' : World) : Prop :=
  ∃ ga N gc A L C Z b m d X i k, e = .returned (.tuple #[.slice ga N gc, .slice b m d, .int .i64 i, .int .i64 k]) ∧ ((1 ≤ N ∧ N ≤ 5) ∧ m ≤ d ∧ m ≤ 6 ∧ (-100 ≤ i ∧ i ≤ 100) ∧ -100 ≤ k ∧ k ≤ 100) ∧ (∀ s, s < N → L s ≤ 5) ∧ Tab w' ga N A L C Z ∧ Rd w' b m X ∧ Below w.heap.size w w'

set_option maxHeartbeats 3200000 in
theorem l92Pair_any (n c : Nat) (a : Option Addr) (B : Nat → Nat) (w : World) (hn : n ≤ 1048576) (hc : n ≤ c) (hb : RdB w a n B) (hab : 0 < n → ∀ b o, a = some ⟨b, o, none⟩ → b < w.heap.size) :
    Calls Try.prog 71 #[.slice a n c] w (DrewPair w) := by
  have HB := Lib.hid hb
  have HAL := Lib.hid hab
  clear hb hab
  go_enter Try.func71, Try.ntmps71
  go_wp2_with fail
  refine (l6Open_any n c a _ hn hc).mono ?_
  rintro e w1 ⟨n', c', rfl, hn2, hnn, hR1, hs1, hb1⟩
  have HB1 := Lib.hid ((HB.out.below (Nat.le_refl _) hb1).sub hnn)
  have HR1 := Lib.hid hR1
  have Hb1 := Lib.hid hb1
  have hlt1 : w.heap.size < w1.heap.size := by omega
  have HAL1 := Lib.hid (show 0 < n' → ∀ b o, a = some ⟨b, o, none⟩ → b < w1.heap.size ∧ b ≠ w.heap.size from fun h0 b o e => by have := HAL.out (by omega) b o e; exact ⟨by omega, by omega⟩)
  have HAB := Lib.hid (show 0 < n' → ∀ b o, a = some ⟨b, o, none⟩ → b ≠ w.heap.size from fun h0 b o e => (HAL1.out h0 b o e).2)
  clear hR1 hb1 hs1
  go_wp2_with fail
  refine (l91Given_any w.heap.size n' c' 0 5 a B _ HR1.out HB1.out HAL1.out hn2 (by omega) (by omega) (by omega)).mono ?_
  rintro e w2 ⟨ga, N, gc, A, L, C, Z, b, m, d, X, p2, rfl, ⟨⟨hN1, hN5⟩, hmd, hm6⟩, ⟨hL, hAp, hAi⟩, hT, hX, hR2, hp2, hU2⟩
  have HL := Lib.hid hL
  have HT2 := Lib.hid hT
  have HX2 := Lib.hid hX
  have HAp := Lib.hid hAp
  have HAi := Lib.hid hAi
  have HR2 := Lib.hid hR2
  have HU2 := Lib.hid hU2
  clear hL hAp hT hR2 hU2 hX hAi
  go_wp2_with fail
  refine (pick_any w.heap.size n' c' p2 N a B _ HR2.out (HB1.out.but HAL1.out HU2.out) HAB.out hn2 (by omega) hN1 (by omega)).mono ?_
  rintro e w3 ⟨x, rfl, hx, hR3, hK3⟩
  have HR3 := Lib.hid hR3
  have HU3 := Lib.hid (HU2.out.trans (ButR.keeps hK3))
  have HT3 := Lib.hid (tab_but HT2.out HAp.out hlt1 (ButR.keeps hK3))
  have HX3 := Lib.hid (rdA_but HX2.out HAi.out hlt1 (ButR.keeps hK3))
  clear hR3 hK3
  go_wp2_with fail
  refine (pick_any w.heap.size n' c' (p2 + 1) 24 a B _ HR3.out (HB1.out.but HAL1.out HU3.out) HAB.out hn2 (by omega) (by omega) (by omega)).mono ?_
  rintro e w5 ⟨y, rfl, hy, hR5, hK5⟩
  have HR5 := Lib.hid hR5
  have HU5 := Lib.hid (HU3.out.trans (ButR.keeps hK5))
  have HT5 := Lib.hid (tab_but HT3.out HAp.out hlt1 (ButR.keeps hK5))
  have HX5 := Lib.hid (rdA_but HX3.out HAi.out hlt1 (ButR.keeps hK5))
  have hy1 : 0 ≤ (y : Int) / 23 := by omega
  have hy2 : (y : Int) / 23 ≤ 1 := by omega
  clear hR5 hK5
  go_wp2_with fail
  rw [show ((N : Int) + (y : Int) / 23) = ((N + y / 23 : Nat) : Int) by omega]
  refine (pick_any w.heap.size n' c' (p2 + 1 + 1) (N + y / 23) a B _ HR5.out (HB1.out.but HAL1.out HU5.out) HAB.out hn2 (by omega) (by omega) (by omega)).mono ?_
  rintro e w6 ⟨z, rfl, hz, hR6, hK6⟩
  have HR6 := Lib.hid hR6
  have HU6 := Lib.hid (HU5.out.trans (ButR.keeps hK6))
  have HT6 := Lib.hid (tab_but HT5.out HAp.out hlt1 (ButR.keeps hK6))
  have HX6 := Lib.hid (rdA_but HX5.out HAi.out hlt1 (ButR.keeps hK6))
  clear hR6 hK6
  go_wp2_with fail
  refine (pick_any w.heap.size n' c' (p2 + 1 + 1 + 1) 24 a B _ HR6.out (HB1.out.but HAL1.out HU6.out) HAB.out hn2 (by omega) (by omega) (by omega)).mono ?_
  rintro e w7 ⟨v, rfl, hv, hR7, hK7⟩
  have HU7 := Lib.hid (Hb1.out.trans ((HU6.out.trans (ButR.keeps hK7)).toBelow (Nat.le_of_lt hlt1)))
  have HT7 := Lib.hid (tab_but HT6.out HAp.out hlt1 (ButR.keeps hK7))
  have HX7 := Lib.hid (rdA_but HX6.out HAi.out hlt1 (ButR.keeps hK7))
  have hv1 : 0 ≤ (v : Int) / 23 := by omega
  have hv2 : (v : Int) / 23 ≤ 1 := by omega
  clear hR7 hK7
  go_wp2
  (try simp only [Exit.inBlock, Exit.then])
  refine bodyPost_ret (results_four rfl _ _ _) rfl ?_
  exact ⟨ga, N, gc, A, L, C, Z, b, m, d, X, _, _, rfl, ⟨⟨hN1, hN5⟩, hmd, hm6, ⟨by omega, by omega⟩, by omega, by omega⟩, HL.out, HT7.out, HX7.out, HU7.out⟩
end Go.Proofs.Ytlncinbphgallaa
