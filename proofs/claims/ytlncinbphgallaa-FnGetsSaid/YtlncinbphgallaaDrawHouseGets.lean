/- The model's DrawHouseGets: drawn wishes, a drawn number, a drawn row. -/
import Derived.Test.YtlncinbphgallaaDrawWishes
import Derived.Test.YtlncinbphgallaaDrawOrder
namespace Go.Proofs.Ytlncinbphgallaa
set_option linter.unusedVariables false
open Go.RowKit

/-- What it hands back. -/
def DrewGets (w : World) (e : Ending) (w' : World) : Prop :=
  ∃ ga N gc A L C Z i b m d X, e = .returned (.tuple #[.slice ga N gc, .int .i64 i, .slice b m d]) ∧ ((1 ≤ N ∧ N ≤ 5) ∧ m ≤ d ∧ m ≤ 6 ∧ (-100 ≤ i ∧ i ≤ 100)) ∧ (∀ s, s < N → L s ≤ 5) ∧ Tab w' ga N A L C Z ∧ Rd w' b m X ∧ Below w.heap.size w w'

set_option maxHeartbeats 3200000 in
theorem drawHouseGets_any (n c : Nat) (a : Option Addr) (B : Nat → Nat) (w : World) (hn : n ≤ 1048576) (hc : n ≤ c) (hb : RdB w a n B) (hab : 0 < n → ∀ b o, a = some ⟨b, o, none⟩ → b < w.heap.size) :
    Calls Try.prog 45 #[.slice a n c] w (DrewGets w) := by
  have HB := Lib.hid hb
  have HAL := Lib.hid hab
  clear hb hab
  go_enter Try.func45, Try.ntmps45
  go_wp2_with fail
  refine (l6Open_any n c a _ hn hc).mono ?_
  rintro e w1 ⟨n', c', rfl, hn2, hnn, hR1, hs1, hb1⟩
  have HB1 := Lib.hid ((HB.out.below (Nat.le_refl _) hb1).sub hnn)
  have HR1 := Lib.hid hR1
  have Hb1 := Lib.hid hb1
  have hlt1 : w.heap.size < w1.heap.size := by omega
  have HAL1 := Lib.hid (show 0 < n' → ∀ b o, a = some ⟨b, o, none⟩ → b < w1.heap.size ∧ b ≠ w.heap.size from fun h0 b o e => by have := HAL.out (by omega) b o e; exact ⟨by omega, by omega⟩)
  have HAB := Lib.hid (show 0 < n' → ∀ b o, a = some ⟨b, o, none⟩ → b ≠ w.heap.size from fun h0 b o e => (HAL1.out h0 b o e).2)
  clear hR1 hb1 hs1
  go_wp2_with fail
  refine (l91Wishes_any w.heap.size n' c' 0 5 a B _ HR1.out HB1.out HAL1.out hn2 (by omega) (by omega) (by omega)).mono ?_
  rintro e w2 ⟨ga, N, gc, A, L, C, Z, p2, rfl, ⟨hN1, hN5⟩, ⟨hL, hAp⟩, hT, hR2, hp2, hU2⟩
  have HL := Lib.hid hL
  have HT2 := Lib.hid hT
  have HAp := Lib.hid hAp
  have HR2 := Lib.hid hR2
  have HU2 := Lib.hid hU2
  clear hL hAp hT hR2 hU2
  go_wp2_with fail
  refine (pick_any w.heap.size n' c' p2 24 a B _ HR2.out (HB1.out.but HAL1.out HU2.out) HAB.out hn2 (by omega) (by omega) (by omega)).mono ?_
  rintro e w5 ⟨y, rfl, hy, hR5, hK5⟩
  have HR5 := Lib.hid hR5
  have HU5 := Lib.hid (HU2.out.trans (ButR.keeps hK5))
  have HT5 := Lib.hid (tab_but HT2.out HAp.out hlt1 (ButR.keeps hK5))
  have hy1 : 0 ≤ (y : Int) / 23 := by omega
  have hy2 : (y : Int) / 23 ≤ 1 := by omega
  clear hR5 hK5
  go_wp2_with fail
  rw [show ((N : Int) + (y : Int) / 23) = ((N + y / 23 : Nat) : Int) by omega]
  refine (pick_any w.heap.size n' c' (p2 + 1) (N + y / 23) a B _ HR5.out (HB1.out.but HAL1.out HU5.out) HAB.out hn2 (by omega) (by omega) (by omega)).mono ?_
  rintro e w6 ⟨z, rfl, hz, hR6, hK6⟩
  have HR6 := Lib.hid hR6
  have HU6 := Lib.hid (HU5.out.trans (ButR.keeps hK6))
  have HT6 := Lib.hid (tab_but HT5.out HAp.out hlt1 (ButR.keeps hK6))
  clear hR6 hK6
  go_wp2_with fail
  refine (pick_any w.heap.size n' c' (p2 + 1 + 1) 24 a B _ HR6.out (HB1.out.but HAL1.out HU6.out) HAB.out hn2 (by omega) (by omega) (by omega)).mono ?_
  rintro e w7 ⟨v, rfl, hv, hR7, hK7⟩
  have HR7 := Lib.hid hR7
  have HU7 := Lib.hid (HU6.out.trans (ButR.keeps hK7))
  have HT7 := Lib.hid (tab_but HT6.out HAp.out hlt1 (ButR.keeps hK7))
  have hv1 : 0 ≤ (v : Int) / 23 := by omega
  have hv2 : (v : Int) / 23 ≤ 1 := by omega
  clear hR7 hK7
  go_wp2_with fail
  refine (l91Order_any w.heap.size n' c' (p2 + 1 + 1 + 1) N a B _ HR7.out (HB1.out.but HAL1.out HU7.out) (fun h0 b o e => ⟨by have := HU7.out.size; have := (HAL1.out h0 b o e).1; omega, HAB.out h0 b o e⟩) hn2 (by omega) hN5).mono ?_
  rintro e w8 ⟨g, m, cap, X, p8, rfl, ⟨hg1, hg2, hg3, hg4⟩, hX, hR8, hp8, hU8⟩
  have HX := Lib.hid hX
  have HU8 := Lib.hid (Hb1.out.trans ((HU7.out.trans (hU8.mono HU7.out.size)).toBelow (Nat.le_of_lt hlt1)))
  have HT8 := Lib.hid (tab_but HT7.out HAp.out hlt1 hU8)
  clear hX hR8 hU8
  go_wp2
  (try simp only [Exit.inBlock, Exit.then])
  refine bodyPost_ret (results_tmp3 rfl _ _ _) rfl ?_
  exact ⟨ga, N, gc, A, L, C, Z, _, some ⟨g, 0, none⟩, m, cap, X, rfl, ⟨⟨hN1, hN5⟩, hg3, by omega, by omega, by omega⟩, HL.out, HT8.out, HX.out, HU8.out⟩
end Go.Proofs.Ytlncinbphgallaa
