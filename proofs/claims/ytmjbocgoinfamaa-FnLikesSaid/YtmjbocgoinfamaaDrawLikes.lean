/- The model's DrawHouseLikes: drawn wishes and three numbers. -/
import Derived.Test.YtmjbocgoinfamaaDrawWishes
namespace Go.Proofs.Ytmjbocgoinfamaa
set_option linter.unusedVariables false
open Go.RowKit

theorem results_tmp4 {fn : Func} {t u v x : Tmp} (h : fn.results = #[.tmp t, .tmp u, .tmp v, .tmp x]) (tmps : Array Value) (P : Program) (w : World) :
    (results fn tmps).run P w = .ok (.tuple #[tmps.getD t undef, tmps.getD u undef, tmps.getD v undef, tmps.getD x undef]) w := by
  simp [results, h]

/-- What it hands back: a table of one to five rows, of five numbers at most, and three small numbers. -/
def DrewThree (w : World) (e : Ending) (w' : World) : Prop :=
  ∃ ga N gc A L C Z i k l, e = .returned (.tuple #[.slice ga N gc, .int .i64 i, .int .i64 k, .int .i64 l]) ∧ (1 ≤ N ∧ N ≤ 5 ∧ (-100 ≤ i ∧ i ≤ 100) ∧ (-100 ≤ k ∧ k ≤ 100) ∧ -100 ≤ l ∧ l ≤ 100) ∧ (∀ s, s < N → L s ≤ 5) ∧ Tab w' ga N A L C Z ∧ Below w.heap.size w w'

set_option maxHeartbeats 3200000 in
theorem drawHouseLikes_any (n c : Nat) (a : Option Addr) (B : Nat → Nat) (w : World) (hn : n ≤ 1048576) (hc : n ≤ c) (hb : RdB w a n B) (hab : 0 < n → ∀ b o, a = some ⟨b, o, none⟩ → b < w.heap.size) :
    Calls Try.prog 46 #[.slice a n c] w (DrewThree w) := by
  have HB := Lib.hid hb
  have HAL := Lib.hid hab
  clear hb hab
  go_enter Try.func46, Try.ntmps46
  go_wp2_with fail
  refine (l6Open_any n c a _ hn hc).mono ?_
  rintro e w1 ⟨n', c', rfl, hn2, hnn, hR1, hs1, hb1⟩
  have HB1 := Lib.hid ((HB.out.below (Nat.le_refl _) hb1).sub hnn)
  have HR1 := Lib.hid hR1
  have Hb1 := Lib.hid hb1
  have hlt1 : w.heap.size < w1.heap.size := by omega
  have HAL1 := Lib.hid (show 0 < n' → ∀ b o, a = some ⟨b, o, none⟩ → b < w1.heap.size ∧ b ≠ w.heap.size from fun h0 b o e => by have := HAL.out (by omega) b o e; exact ⟨by omega, by omega⟩)
  have HAB := Lib.hid (show 0 < n' → ∀ b o, a = some ⟨b, o, none⟩ → b ≠ w.heap.size from fun h0 b o e => (HAL1.out h0 b o e).2)
  clear hR1 hb1 hs1
  go_wp2_with fail
  refine (l91Wishes_any w.heap.size n' c' 0 5 a B _ HR1.out HB1.out HAL1.out hn2 (by omega) (by omega) (by omega)).mono ?_
  rintro e w2 ⟨ga, N, gc, A, L, C, Z, p2, rfl, ⟨hN1, hN5⟩, ⟨hL, hAp⟩, hT, hR2, hp2, hU2⟩
  have HL := Lib.hid hL
  have HT2 := Lib.hid hT
  have HAp := Lib.hid hAp
  have HR2 := Lib.hid hR2
  have HU2 := Lib.hid hU2
  clear hL hAp hT hR2 hU2
  go_wp2_with fail
  refine (pick_any w.heap.size n' c' p2 N a B _ HR2.out (HB1.out.but HAL1.out HU2.out) HAB.out hn2 (by omega) hN1 (by omega)).mono ?_
  rintro e w3 ⟨x, rfl, hx, hR3, hK3⟩
  have HR3 := Lib.hid hR3
  have HU3 := Lib.hid (HU2.out.trans (ButR.keeps hK3))
  have HT3 := Lib.hid (tab_but HT2.out HAp.out hlt1 (ButR.keeps hK3))
  clear hR3 hK3
  go_wp2_with fail
  refine (pick_any w.heap.size n' c' (p2 + 1) N a B _ HR3.out (HB1.out.but HAL1.out HU3.out) HAB.out hn2 (by omega) hN1 (by omega)).mono ?_
  rintro e w4 ⟨x2, rfl, hx2, hR4, hK4⟩
  have HR4 := Lib.hid hR4
  have HU4 := Lib.hid (HU3.out.trans (ButR.keeps hK4))
  have HT4 := Lib.hid (tab_but HT3.out HAp.out hlt1 (ButR.keeps hK4))
  clear hR4 hK4
  go_wp2_with fail
  refine (pick_any w.heap.size n' c' (p2 + 1 + 1) 24 a B _ HR4.out (HB1.out.but HAL1.out HU4.out) HAB.out hn2 (by omega) (by omega) (by omega)).mono ?_
  rintro e w5 ⟨y, rfl, hy, hR5, hK5⟩
  have HR5 := Lib.hid hR5
  have HU5 := Lib.hid (HU4.out.trans (ButR.keeps hK5))
  have HT5 := Lib.hid (tab_but HT4.out HAp.out hlt1 (ButR.keeps hK5))
  have hy1 : 0 ≤ (y : Int) / 23 := by omega
  have hy2 : (y : Int) / 23 ≤ 1 := by omega
  clear hR5 hK5
  go_wp2_with fail
  rw [show ((N : Int) + (y : Int) / 23) = ((N + y / 23 : Nat) : Int) by omega]
  refine (pick_any w.heap.size n' c' (p2 + 1 + 1 + 1) (N + y / 23) a B _ HR5.out (HB1.out.but HAL1.out HU5.out) HAB.out hn2 (by omega) (by omega) (by omega)).mono ?_
  rintro e w6 ⟨z, rfl, hz, hR6, hK6⟩
  have HR6 := Lib.hid hR6
  have HU6 := Lib.hid (HU5.out.trans (ButR.keeps hK6))
  have HT6 := Lib.hid (tab_but HT5.out HAp.out hlt1 (ButR.keeps hK6))
  clear hR6 hK6
  go_wp2_with fail
  refine (pick_any w.heap.size n' c' (p2 + 1 + 1 + 1 + 1) 24 a B _ HR6.out (HB1.out.but HAL1.out HU6.out) HAB.out hn2 (by omega) (by omega) (by omega)).mono ?_
  rintro e w7 ⟨v, rfl, hv, hR7, hK7⟩
  have HU7 := Lib.hid (Hb1.out.trans ((HU6.out.trans (ButR.keeps hK7)).toBelow (Nat.le_of_lt hlt1)))
  have HT7 := Lib.hid (tab_but HT6.out HAp.out hlt1 (ButR.keeps hK7))
  have hv1 : 0 ≤ (v : Int) / 23 := by omega
  have hv2 : (v : Int) / 23 ≤ 1 := by omega
  clear hR7 hK7
  go_wp2
  (try simp only [Exit.inBlock, Exit.then])
  refine bodyPost_ret (results_tmp4 rfl _ _ _) rfl ?_
  exact ⟨ga, N, gc, A, L, C, Z, _, _, _, rfl, ⟨hN1, hN5, ⟨by omega, by omega⟩, ⟨by omega, by omega⟩, by omega, by omega⟩, HL.out, HT7.out, HU7.out⟩
end Go.Proofs.Ytmjbocgoinfamaa
