/- The model's DrawFairGain: drawn bids, item prices and a bidder. -/
import Derived.Test.YtaipodnhnekpjaaDrawPricesI
namespace Go.Proofs.Ytaipodnhnekpjaa
set_option linter.unusedVariables false
set_option linter.unusedSimpArgs false
open Go.RowKit

set_option maxHeartbeats 1600000 in
theorem drawFairGain_any (n c : Nat) (a : Option Addr) (B : Nat → Nat) (w : World) (hn : n ≤ 1048576) (hc : n ≤ c) (hb : RdB w a n B) (hab : 0 < n → ∀ b o, a = some ⟨b, o, none⟩ → b < w.heap.size) :
    Calls Try.prog 43 #[.slice a n c] w (DrewPricedN w) := by
  have HB := Lib.hid hb
  have HAL := Lib.hid hab
  clear hb hab
  go_enter Try.func43, Try.ntmps43
  go_wp2_with fail
  refine (l6Open_any n c a _ hn hc).mono ?_
  rintro e w1 ⟨n', c', rfl, hn2, hnn, hR1, hs1, hb1⟩
  have HB1 := Lib.hid ((HB.out.below (Nat.le_refl _) hb1).sub hnn)
  have HR1 := Lib.hid hR1
  have Hb1 := Lib.hid hb1
  have hlt1 : w.heap.size < w1.heap.size := by omega
  have HAL1 := Lib.hid (show 0 < n' → ∀ b o, a = some ⟨b, o, none⟩ → b < w1.heap.size ∧ b ≠ w.heap.size from fun h0 b o e => by have := HAL.out (by omega) b o e; exact ⟨by omega, by omega⟩)
  have HAB := Lib.hid (show 0 < n' → ∀ b o, a = some ⟨b, o, none⟩ → b ≠ w.heap.size from fun h0 b o e => (HAL1.out h0 b o e).2)
  clear hR1 hb1 hs1
  go_wp2_with fail
  refine (l92Bids_any w.heap.size n' c' 0 4 a B _ HR1.out HB1.out HAL1.out hn2 (by omega) (by omega) (by omega)).mono ?_
  rintro e w2 ⟨ga, N, gc, A, L, C, Z, p2, rfl, ⟨hN1, hN4⟩, ⟨hgc, hL, hAp⟩, hT, hR2, hp2, hU2⟩
  have HL := Lib.hid hL
  have HT2 := Lib.hid hT
  have HAp := Lib.hid hAp
  have HR2 := Lib.hid hR2
  have HU2 := Lib.hid hU2
  clear hL hAp hT hR2 hU2
  go_wp2_with fail
  refine (l92Prices_any w.heap.size n' c' p2 N gc a ga B A L C Z w2 HR2.out (HB1.out.but HAL1.out HU2.out) (fun h0 b o e => by have := HAL1.out h0 b o e; have := HU2.out.size; exact ⟨by omega, by omega⟩) hn2 (by omega) hN1 hN4 HL.out HT2.out (fun bb oo e => by have := HAp.out.1 bb oo e; omega)).mono ?_
  rintro e w3 ⟨b, q, d, P, p3, rfl, hq, hP, hPa, hR3, hp3, hU3⟩
  have HP3 := Lib.hid hP
  have HPa := Lib.hid (show ∀ bb oo, 0 < q → b = some ⟨bb, oo, none⟩ → w1.heap.size ≤ bb from fun bb oo h0 e => by have := hPa bb oo h0 e; have := HU2.out.size; omega)
  have HR3 := Lib.hid hR3
  have HT3 := Lib.hid (tab_but HT2.out HAp.out hlt1 hU3)
  have HU3 := Lib.hid (HU2.out.trans (hU3.mono HU2.out.size))
  clear hP hPa hR3 hU3
  go_wp2_with fail
  refine (pick_any w.heap.size n' c' p3 24 a B _ HR3.out (HB1.out.but HAL1.out HU3.out) HAB.out hn2 (by omega) (by omega) (by omega)).mono ?_
  rintro e w5 ⟨y, rfl, hy, hR5, hK5⟩
  have HR5 := Lib.hid hR5
  have HU5 := Lib.hid (HU3.out.trans (ButR.keeps hK5))
  have HT5 := Lib.hid (tab_but HT3.out HAp.out hlt1 (ButR.keeps hK5))
  have HP5 := Lib.hid (rd_ap HP3.out HPa.out hlt1 hK5)
  have hdy : (y : Int).tdiv 23 = (y : Int) / 23 := Int.tdiv_eq_ediv_of_nonneg (by omega)
  have hy1 : 0 ≤ (y : Int) / 23 := by omega
  have hy2 : (y : Int) / 23 ≤ 1 := by omega
  clear hR5 hK5
  go_wp2_with fail
  rw [show ((N : Int) + (y : Int) / 23) = ((N + y / 23 : Nat) : Int) by omega]
  refine (pick_any w.heap.size n' c' (p3 + 1) (N + y / 23) a B _ HR5.out (HB1.out.but HAL1.out HU5.out) HAB.out hn2 (by omega) (by omega) (by omega)).mono ?_
  rintro e w6 ⟨z, rfl, hz, hR6, hK6⟩
  have HR6 := Lib.hid hR6
  have HU6 := Lib.hid (HU5.out.trans (ButR.keeps hK6))
  have HT6 := Lib.hid (tab_but HT5.out HAp.out hlt1 (ButR.keeps hK6))
  have HP6 := Lib.hid (rd_ap HP5.out HPa.out hlt1 hK6)
  clear hR6 hK6
  go_wp2_with fail
  refine (pick_any w.heap.size n' c' (p3 + 1 + 1) 24 a B _ HR6.out (HB1.out.but HAL1.out HU6.out) HAB.out hn2 (by omega) (by omega) (by omega)).mono ?_
  rintro e w7 ⟨v, rfl, hv, hR7, hK7⟩
  have HU7 := Lib.hid (Hb1.out.trans ((HU6.out.trans (ButR.keeps hK7)).toBelow (Nat.le_of_lt hlt1)))
  have HT7 := Lib.hid (tab_but HT6.out HAp.out hlt1 (ButR.keeps hK7))
  have HP7 := Lib.hid (rd_ap HP6.out HPa.out hlt1 hK7)
  have hdv : (v : Int).tdiv 23 = (v : Int) / 23 := Int.tdiv_eq_ediv_of_nonneg (by omega)
  have hv1 : 0 ≤ (v : Int) / 23 := by omega
  have hv2 : (v : Int) / 23 ≤ 1 := by omega
  clear hR7 hK7
  go_wp2
  go_ret3
  exact ⟨ga, N, gc, A, L, C, Z, b, q, d, P, _, rfl, ⟨hN1, hN4, hgc⟩, hq, ⟨by omega, by omega⟩, HL.out, HT7.out, HP7.out, HU7.out⟩
end Go.Proofs.Ytaipodnhnekpjaa
