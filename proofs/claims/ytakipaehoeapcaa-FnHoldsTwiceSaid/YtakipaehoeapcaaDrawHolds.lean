/- The draw of a rate table and prices that often hold it. -/
import Derived.Test.YtakipaehoeapcaaDrawOne
import Derived.Test.YtakipaehoeapcaaDrawPrices
import Derived.Test.YtakipaehoeapcaaSpecPriceFind
namespace Go.Proofs.Ytakipaehoeapcaa
set_option linter.unusedVariables false
open Go.RowKit

set_option maxHeartbeats 3200000 in
theorem drawPriceHolds_any (n c : Nat) (a : Option Addr) (B : Nat → Nat) (w : World) (hn : n ≤ 1048576) (hc : n ≤ c) (hb : RdB w a n B) (hab : 0 < n → ∀ b o, a = some ⟨b, o, none⟩ → b < w.heap.size) :
    Calls Try.prog 29 #[.slice a n c] w (DrewBoth w) := by
  have HB := Lib.hid hb
  have HAL := Lib.hid hab
  clear hb hab
  go_enter Try.func29, Try.ntmps29
  go_wp2_with fail
  refine (l6Open_any n c a _ hn hc).mono ?_
  rintro e w1 ⟨n', c', rfl, hn2, hnn, hR1, hs1, hb1⟩
  have HB1 := Lib.hid ((HB.out.below (Nat.le_refl _) hb1).sub hnn)
  have HR1 := Lib.hid hR1
  have Hb1 := Lib.hid hb1
  have hlt1 : w.heap.size < w1.heap.size := by omega
  have HAL1 := Lib.hid (show 0 < n' → ∀ b o, a = some ⟨b, o, none⟩ → b < w1.heap.size ∧ b ≠ w.heap.size from fun h0 b o e => by have := HAL.out (by omega) b o e; exact ⟨by omega, by omega⟩)
  clear hR1 hb1 hs1
  go_wp2_with fail
  refine (l91Table_any w.heap.size n' c' 0 a B _ HR1.out HB1.out HAL1.out hn2 (by omega)).mono ?_
  rintro e w2 ⟨ga, N, gc, A, L, C, Z, p2, rfl, ⟨hN1, hN5⟩, ⟨hL, hAp⟩, hT, hR2, hp2, hU2⟩
  have HL := Lib.hid hL
  have HT := Lib.hid hT
  have HAp := Lib.hid hAp
  have HR2 := Lib.hid hR2
  have HU2 := Lib.hid hU2
  have hs2 := hU2.size
  clear hL hAp hT hR2 hU2
  go_wp2_with fail
  refine (specPriceFind_cap N gc ga A L C Z _ (by omega) (fun r hr => by have := HL.out r hr; omega) HT.out).mono ?_
  rintro e w3 ⟨pa, pc, rfl, hcap, hO3, hb3⟩
  have HT3 := Lib.hid (HT.out.below (Nat.le_refl _) hb3)
  have HR3 := Lib.hid (HR2.out.of_block (hb3.block _ (by omega)))
  have HU3 := Lib.hid (HU2.out.trans ((ButR.below hb3).mono hs2))
  have HO3 := Lib.hid hO3
  have hs3 := hb3.size
  clear hO3 hb3
  by_cases hok : FindOk N L Z
  · have K1 := Lib.hid (tt_of hok)
    have K2 := Lib.hid (findN_yes hok)
    rw [K2.out] at HO3 hcap ⊢
    rw [K1.out]
    clear hok
    go_wp2_with fail
    refine (pick_any w.heap.size n' c' p2 4 a B _ HR3.out (HB1.out.but HAL1.out HU3.out) (fun h0 b o e => (HAL1.out h0 b o e).2) hn2 (by omega) (by omega) (by omega)).mono ?_
    rintro e w4 ⟨y, rfl, hy, hR4, hK4⟩
    have HR4 := Lib.hid hR4
    have HU4 := Lib.hid (HU3.out.trans (ButR.keeps hK4))
    have HT4 := Lib.hid (tab_but HT3.out HAp.out hlt1 (ButR.keeps hK4))
    have O4 := Lib.hid (HO3.out.keeps (.inr (by omega)) hK4)
    have hs4 : w3.heap.size ≤ w4.heap.size := Nat.le_of_eq hK4.size.symm
    clear hR4 hK4
    by_cases hy0 : y = 0
    · subst hy0
      have hd : ¬ ((0 : Int) < ((0 : Nat) : Int)) := by omega
      go_wp2_with fail
      refine (l91Prices_any w.heap.size n' c' (p2 + 1) N a B _ HR4.out (HB1.out.but HAL1.out HU4.out) (fun h0 b o e => ⟨by have := (HAL1.out h0 b o e).1; omega, (HAL1.out h0 b o e).2⟩) hn2 (by omega) hN1 hN5).mono ?_
      rintro e w5 ⟨g, cap, X, p5, rfl, ⟨hg1, hg2, hg3⟩, hX, hR5, hp5, hU5⟩
      have HX := Lib.hid hX
      have HT5 := Lib.hid (tab_but HT4.out HAp.out hlt1 hU5)
      have HU5 := Lib.hid (Hb1.out.trans ((HU4.out.trans (hU5.mono (by omega))).toBelow (Nat.le_of_lt hlt1)))
      clear hX hR5 hU5
      go_wp2
      go_ret2
      exact ⟨ga, N, gc, A, L, C, Z, _, cap, X, rfl, ⟨hN1, hN5, hg3⟩, HL.out, HT5.out, HX.out, HU5.out⟩
    · have hd : (0 : Int) < (y : Int) := by omega
      have hd2 : 0 < y := by omega
      have HU5 := Lib.hid (Hb1.out.trans (HU4.out.toBelow (Nat.le_of_lt hlt1)))
      go_wp2
      go_ret2
      exact ⟨ga, N, gc, A, L, C, Z, pa, pc, _, rfl, ⟨hN1, hN5, hcap⟩, HL.out, HT4.out, O4.out.rd, HU5.out⟩
  · have K1 := Lib.hid (tt_no hok)
    rw [K1.out]
    clear hok HO3 hcap
    go_wp2_with fail
    refine (l91Prices_any w.heap.size n' c' p2 N a B _ HR3.out (HB1.out.but HAL1.out HU3.out) (fun h0 b o e => ⟨by have := (HAL1.out h0 b o e).1; omega, (HAL1.out h0 b o e).2⟩) hn2 (by omega) hN1 hN5).mono ?_
    rintro e w5 ⟨g, cap, X, p5, rfl, ⟨hg1, hg2, hg3⟩, hX, hR5, hp5, hU5⟩
    have HX := Lib.hid hX
    have HT5 := Lib.hid (tab_but HT3.out HAp.out hlt1 hU5)
    have HU5 := Lib.hid (Hb1.out.trans ((HU3.out.trans (hU5.mono (by omega))).toBelow (Nat.le_of_lt hlt1)))
    clear hX hR5 hU5
    go_wp2
    go_ret2
    exact ⟨ga, N, gc, A, L, C, Z, _, cap, X, rfl, ⟨hN1, hN5, hg3⟩, HL.out, HT5.out, HX.out, HU5.out⟩
end Go.Proofs.Ytakipaehoeapcaa
