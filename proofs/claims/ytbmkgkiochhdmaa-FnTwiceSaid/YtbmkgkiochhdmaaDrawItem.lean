/- The model's l92Item: drawn bids and a number. -/
import Derived.Test.YtbmkgkiochhdmaaDrewBidNum
namespace Go.Proofs.Ytbmkgkiochhdmaa
set_option linter.unusedVariables false
set_option linter.unusedSimpArgs false
open Go.RowKit

set_option maxRecDepth 100000 in
set_option maxHeartbeats 3200000 in
theorem l92Item_any (n c : Nat) (a : Option Addr) (B : Nat → Nat) (w : World) (hn : n ≤ 1048576) (hc : n ≤ c) (hb : RdB w a n B) (hab : 0 < n → ∀ b o, a = some ⟨b, o, none⟩ → b < w.heap.size) :
    Calls Try.prog 52 #[.slice a n c] w (DrewBidNum w) := by
  have HB := Lib.hid hb
  have HAL := Lib.hid hab
  clear hb hab
  go_enter Try.func52, Try.ntmps52
  go_wp2_with fail
  refine (l6Open_any n c a _ hn hc).mono ?_
  rintro e w1 ⟨n', c', rfl, hn2, hnn, hR1, hs1, hb1⟩
  have HB1 := Lib.hid ((HB.out.below (Nat.le_refl _) hb1).sub hnn)
  have HR1 := Lib.hid hR1
  have Hb1 := Lib.hid hb1
  have hlt1 : w.heap.size < w1.heap.size := by omega
  have HAL1 := Lib.hid (show 0 < n' → ∀ b o, a = some ⟨b, o, none⟩ → b < w1.heap.size ∧ b ≠ w.heap.size from fun h0 b o e => by have := HAL.out (by omega) b o e; exact ⟨by omega, by omega⟩)
  have HAB := Lib.hid (show 0 < n' → ∀ b o, a = some ⟨b, o, none⟩ → b ≠ w.heap.size from fun h0 b o e => (HAL1.out h0 b o e).2)
  clear hR1 hb1 hs1
  go_wp2_with fail
  refine (l92Bids_any w.heap.size n' c' 0 4 a B _ HR1.out HB1.out HAL1.out hn2 (by omega) (by omega) (by omega)).mono ?_
  rintro e w2 ⟨ga, N, gc, A, L, C, Z, p2, rfl, ⟨hN1, hN4⟩, ⟨hgc, hL, hAp⟩, hT, hR2, hp2, hU2⟩
  have HL := Lib.hid hL
  have HT2 := Lib.hid hT
  have HAp := Lib.hid hAp
  have HR2 := Lib.hid hR2
  have HU2 := Lib.hid hU2
  clear hL hAp hT hR2 hU2
  obtain ⟨b0, o0, rfl, hc0, _⟩ := HT2.out 0 hN1
  rw [Nat.add_zero] at hc0
  have hb0 := HAp.out.1 b0 o0 rfl
  have hL0 := HL.out 0 hN1
  obtain ⟨m, hm⟩ : ∃ m, m = L 0 := ⟨_, rfl⟩
  rw [← hm] at hc0 hL0
  have HC0 := Lib.hid hc0
  have hbl : b0 < w2.heap.size := World.block_lt_of_cell? _ _ hc0
  have hcd : w2.drew.cell? ⟨b0, o0, none⟩ = some (.slice (A 0) m (C 0)) := by simpa using hc0
  have hNz : (0 : Int) < (N : Int) := by omega
  have HRd := Lib.hid (show RdrAt w2.drew w.heap.size (a) n' c' p2 from HR2.out)
  have HUd := Lib.hid (show ButR w.heap.size w1.heap.size w1 w2.drew from HU2.out.trans (ButR.below ((Below.refl _ _).drew)))
  have HTd := Lib.hid (show Tab w2.drew (some ⟨b0, o0, none⟩) N A L C Z from HT2.out.drewN 1)
  have hne : b0 ≠ w.heap.size := by omega
  clear hm hc0
  have t1 : True := trivial
  have t2 : True := trivial
  go_wp2
  go_region_with (first
    | (have _t := t1; go_at_call 47; refine (pick_any w.heap.size n' c' p2 24 a B _ HRd.out (HB1.out.but HAL1.out HUd.out) HAB.out hn2 (by omega) (by omega) (by omega)).mono ?_; rintro e w5 ⟨y, rfl, hy, hR5, hK5⟩; have HR5 := Lib.hid hR5; have HU5 := Lib.hid (HUd.out.trans (ButR.keeps hK5)); have HT5 := Lib.hid (tab_but HTd.out HAp.out hlt1 (ButR.keeps hK5)); have hc5 := (hK5.cell (p := ⟨b0, o0, none⟩) (by show b0 < w.heap.size ∨ w.heap.size + 1 ≤ b0; omega)).trans hcd; have hdy : (y : Int).tdiv 23 = (y : Int) / 23 := Int.tdiv_eq_ediv_of_nonneg (by omega); have hwy : IntKind.i64.wrap ((y : Int) / 23) = (y : Int) / 23 := IntWalk.i64_in _ (by omega); have hws : IntKind.i64.wrap ((m : Int) + (y : Int) / 23) = ((m + y / 23 : Nat) : Int) := by rw [IntWalk.i64_in _ (by omega)]; omega
       clear hR5 hK5 t1 _t)
    | (have _t := t2; go_at_call 47; refine (pick_any w.heap.size n' c' (p2 + 1) (m + y / 23) a B _ HR5.out (HB1.out.but HAL1.out HU5.out) HAB.out hn2 (by omega) (by omega) (by omega)).mono ?_; rintro e w6 ⟨z, rfl, hz, hR6, hK6⟩; have HR6 := Lib.hid hR6; have HU6 := Lib.hid (HU5.out.trans (ButR.keeps hK6)); have HT6 := Lib.hid (tab_but HT5.out HAp.out hlt1 (ButR.keeps hK6)); have hc6 := (hK6.cell (p := ⟨b0, o0, none⟩) (by show b0 < w.heap.size ∨ w.heap.size + 1 ≤ b0; omega)).trans hc5
       clear hR6 hK6 t2 _t)
    | (go_at_call 47; refine (pick_any w.heap.size n' c' (p2 + 1 + 1) 24 a B _ HR6.out (HB1.out.but HAL1.out HU6.out) HAB.out hn2 (by omega) (by omega) (by omega)).mono ?_; rintro e w7 ⟨v, rfl, hv, hR7, hK7⟩; have HU7 := Lib.hid (Hb1.out.trans ((HU6.out.trans (ButR.keeps hK7)).toBelow (Nat.le_of_lt hlt1))); have HT7 := Lib.hid (tab_but HT6.out HAp.out hlt1 (ButR.keeps hK7)); have hc7 := (hK7.cell (p := ⟨b0, o0, none⟩) (by show b0 < w.heap.size ∨ w.heap.size + 1 ≤ b0; omega)).trans hc6; have hdv : (v : Int).tdiv 23 = (v : Int) / 23 := Int.tdiv_eq_ediv_of_nonneg (by omega); have hwv : IntKind.i64.wrap ((v : Int) / 23) = (v : Int) / 23 := IntWalk.i64_in _ (by omega); have hwz : IntKind.i64.wrap ((z : Int) - (v : Int) / 23) = (z : Int) - (v : Int) / 23 := IntWalk.i64_in _ (by omega)
       clear hR7 hK7))
  all_goals (
    go_wp2
    go_ret2
    exact ⟨some ⟨b0, o0, none⟩, N, gc, A, L, C, Z, _, rfl, ⟨hN1, hN4, hgc⟩, ⟨by omega, by omega⟩, HL.out, HT7.out, HU7.out⟩)
end Go.Proofs.Ytbmkgkiochhdmaa
