/- The model's DrawFairIn: drawn bids, item prices and a deal. -/
import Derived.Test.YtbbcafmmgllfeaaDrawPricesI
import Derived.Test.YtbbcafmmgllfeaaDrawDealt
namespace Go.Proofs.Ytbbcafmmgllfeaa
set_option linter.unusedVariables false
set_option linter.unusedSimpArgs false
open Go.RowKit

theorem RdrAt.putP {w : World} {r : Nat} {a : Option Addr} {n c p : Nat} (h : RdrAt w r a n c p) (q : Nat) : RdrAt (w.setCell ⟨r, 1, none⟩ (.int .i64 (q : Int))) r a n c q := by
  have := heap_setCell_same w r 1 _ _ (.int .i64 (q : Int)) h
  unfold RdrAt
  rw [this]
  rfl

set_option maxHeartbeats 1600000 in
theorem drawFairIn_any (n c : Nat) (a : Option Addr) (B : Nat → Nat) (w : World) (hn : n ≤ 1048576) (hc : n ≤ c) (hb : RdB w a n B) (hab : 0 < n → ∀ b o, a = some ⟨b, o, none⟩ → b < w.heap.size) :
    Calls Try.prog 7 #[.slice a n c] w (DrewPricedD w) := by
  have HP := Lib.hid (l92Dealt_any n c a B w hn hc hb hab)
  have HB := Lib.hid hb
  have HAL := Lib.hid hab
  clear hb hab
  go_enter Try.func7, Try.ntmps7
  go_wp2_with fail
  refine HP.out.mono ?_
  rintro e w1 ⟨ga, N, gc, A, L, C, Z, g, r, e', D, rfl, ⟨hN1, hN4, hgc⟩, hr4, hL, hT, hD, hb1⟩
  have HL := Lib.hid hL
  have HT := Lib.hid hT
  have HD := Lib.hid hD
  have B1 := Lib.hid hb1
  clear hL hT hD hb1
  go_wp2_with fail
  refine (l6Open_any n c a _ hn hc).mono ?_
  rintro e w2 ⟨n', c', rfl, hn2, hnn, hR2, hs2, hb2⟩
  have c1 := hR2.cell1
  have f1 := hR2.frozen 1
  have R2 := Lib.hid hR2
  have B2 := Lib.hid hb2
  have hlt2 : w1.heap.size < w2.heap.size := by omega
  have hw1 := B1.out.size
  have HAB := Lib.hid (show 0 < n' → ∀ b o, a = some ⟨b, o, none⟩ → b < w1.heap.size from fun h0 b o e => by have := HAL.out (by omega) b o e; omega)
  clear hR2 hb2 hs2
  obtain ⟨w3, hw3⟩ : ∃ w3, w2.setCell ⟨w1.heap.size, 1, none⟩ (.int .i64 61) = w3 := ⟨_, rfl⟩
  have R3 := Lib.hid (show RdrAt w3 w1.heap.size a n' c' 61 by rw [← hw3]; exact R2.out.putP 61)
  have U3 := Lib.hid (show Below w1.heap.size w1 w3 by rw [← hw3]; exact B2.out.setCell (p := ⟨w1.heap.size, 1, none⟩) (Nat.le_refl _) _)
  have HB3 := Lib.hid (show RdB w3 a n' B from (HB.out.below (Nat.le_refl _) (B1.out.trans (U3.out.mono B1.out.size))).sub hnn)
  clear R2
  go_wp2_with fail
  clear hw3 c1 f1
  refine (l92Prices_any w1.heap.size n' c' 61 N gc a ga B A L C Z w3 R3.out HB3.out (fun h0 b o e => by have := HAB.out h0 b o e; have := U3.out.size; exact ⟨by omega, by omega⟩) hn2 (by omega) hN1 hN4 HL.out (HT.out.below (Nat.le_refl _) U3.out) (fun bb oo e => by
    obtain ⟨b1, o1, e1, hc1, _⟩ := HT.out 0 hN1
    rw [e] at e1
    have := World.block_lt_of_cell? _ _ hc1
    cases e1
    exact Nat.ne_of_lt this)).mono ?_
  rintro e w4 ⟨b, q, d, P, p4, rfl, hq, hP, hPa, hR4, hp4, hU4⟩
  have HP4 := Lib.hid hP
  have U4 := Lib.hid (show Below w1.heap.size w1 w4 from U3.out.trans (hU4.toBelow U3.out.size))
  clear hP hPa hR4 hU4
  go_wp2
  go_ret3
  exact ⟨ga, N, gc, A, L, C, Z, b, q, d, P, g, r, e', D, rfl, ⟨hN1, hN4, hgc⟩, ⟨hq, hr4⟩, HL.out, HT.out.below (Nat.le_refl _) U4.out, HP4.out, HD.out.below (Nat.le_refl _) U4.out, B1.out.trans (U4.out.mono B1.out.size)⟩
end Go.Proofs.Ytbbcafmmgllfeaa
