/- The model's l92Dealt: drawn bids and a deal that is often best. -/
import Derived.Test.YtbmkgkiochhdmaaDrawDeal
import Derived.Test.YtbmkgkiochhdmaaL7First
import Derived.Test.YtbmkgkiochhdmaaSpecBidIn
namespace Go.Proofs.Ytbmkgkiochhdmaa
set_option linter.unusedVariables false
set_option linter.unusedSimpArgs false
open Go.RowKit

/-- Drawn bids and a row of numbers. -/
def DrewDealt (w : World) (e : Ending) (w' : World) : Prop :=
  ∃ (ga : Option Addr) (N gc : Nat) (A : Nat → Option Addr) (L C : Nat → Nat) (Z : Nat → Nat → Int) (b : Option Addr) (q d : Nat) (D : Nat → Int), e = .returned (.tuple #[.slice ga N gc, .slice b q d]) ∧ (1 ≤ N ∧ N ≤ 4 ∧ N ≤ gc) ∧ q ≤ 4 ∧ (∀ s, s < N → 1 ≤ L s ∧ L s ≤ 5) ∧ Tab w' ga N A L C Z ∧ Rd w' b q D ∧ Below w.heap.size w w'

set_option maxRecDepth 100000 in
set_option maxHeartbeats 3200000 in
theorem l92Dealt_any (n c : Nat) (a : Option Addr) (B : Nat → Nat) (w : World) (hn : n ≤ 1048576) (hc : n ≤ c) (hb : RdB w a n B) (hab : 0 < n → ∀ b o, a = some ⟨b, o, none⟩ → b < w.heap.size) :
    Calls Try.prog 38 #[.slice a n c] w (DrewDealt w) := by
  have HB := Lib.hid hb
  have HAL := Lib.hid hab
  clear hb hab
  go_enter Try.func38, Try.ntmps38
  go_wp2_with fail
  refine (l6Open_any n c a _ hn hc).mono ?_
  rintro e w1 ⟨n', c', rfl, hn2, hnn, hR1, hs1, hb1⟩
  have HB1 := Lib.hid ((HB.out.below (Nat.le_refl _) hb1).sub hnn)
  have HR1 := Lib.hid hR1
  have Hb1 := Lib.hid hb1
  have hlt1 : w.heap.size < w1.heap.size := by omega
  have HAL1 := Lib.hid (show 0 < n' → ∀ b o, a = some ⟨b, o, none⟩ → b < w1.heap.size ∧ b ≠ w.heap.size from fun h0 b o e => by have := HAL.out (by omega) b o e; exact ⟨by omega, by omega⟩)
  have HAB := Lib.hid (show 0 < n' → ∀ b o, a = some ⟨b, o, none⟩ → b ≠ w.heap.size from fun h0 b o e => (HAL1.out h0 b o e).2)
  clear hR1 hb1 hs1
  go_wp2_with fail
  refine (l92Bids_any w.heap.size n' c' 0 4 a B _ HR1.out HB1.out HAL1.out hn2 (by omega) (by omega) (by omega)).mono ?_
  rintro e w2 ⟨ga, N, gc, A, L, C, Z, p2, rfl, ⟨hN1, hN4⟩, ⟨hgc, hL, hAp⟩, hT, hR2, hp2, hU2⟩
  have HL := Lib.hid hL
  have HT2 := Lib.hid hT
  have HAp := Lib.hid hAp
  have HR2 := Lib.hid hR2
  have HU2 := Lib.hid hU2
  clear hL hAp hT hR2 hU2
  go_wp2_with fail
  refine (specBidIn_any N gc ga A L C Z w2 (by omega) (fun r hr => by have := HL.out r hr; omega) HT2.out).mono ?_
  rintro e w3 ⟨rfl, hb3⟩
  have hr2 := HR2.out.lt
  have HR3 := Lib.hid (HR2.out.of_block (hb3.block _ hr2))
  have HU3 := Lib.hid (HU2.out.trans (ButR.below (hb3.mono HU2.out.size)))
  have HT3 := Lib.hid (HT2.out.below (Nat.le_refl _) hb3)
  have HS3 := Lib.hid (HU2.out.trans (ButR.below (hb3.mono HU2.out.size))).size
  clear hb3
  by_cases hok : IsBids N L Z
  · have T1 := Lib.hid (tt_of hok)
    rw [T1.out]
    have HOK := Lib.hid hok
    clear hok
    go_wp2_with fail
    refine (pick_any w.heap.size n' c' p2 2 a B _ HR3.out (HB1.out.but HAL1.out HU3.out) HAB.out hn2 (by omega) (by omega) (by omega)).mono ?_
    rintro e w4 ⟨y, rfl, hy, hR4, hK4⟩
    have HR4 := Lib.hid hR4
    have HU4 := Lib.hid (HU3.out.trans (ButR.keeps hK4))
    have HT4 := Lib.hid (tab_but HT3.out HAp.out hlt1 (ButR.keeps hK4))
    clear hR4 hK4
    by_cases hy0 : y = 0
    · subst hy0
      go_wp2_with fail
      refine (l7First_any N gc ga A L C Z w4 HOK.out HT4.out).mono ?_
      rintro e w5 ⟨v, l, G, Cp, rfl, hown, hrow, hl, hb5⟩
      have hp : 0 < l.length := by
        have := bests_pos (Z := Z) (dealsP_none (m := L 0) N)
        rw [← hl, List.length_map] at this
        exact this
      have hM : l.length ≤ 1296 := by
        have h1 : (bestsL N Z (dealsP (L 0) N)).length ≤ (dealsP (L 0) N).length := List.length_filter_le _ _
        rw [← hl, List.length_map] at h1
        exact Nat.le_trans h1 (dealsP_small (by have := HOK.out.1.2.2; omega) hN4)
      obtain ⟨g, cap, rfl⟩ := owns_form hown hp
      have hr4 := HR4.out.lt
      have HR5 := Lib.hid (HR4.out.of_block (hb5.block _ hr4))
      have HU5 := Lib.hid (HU4.out.trans (ButR.below (hb5.mono HU4.out.size)))
      have HT5 := Lib.hid (HT4.out.below (Nat.le_refl _) hb5)
      obtain ⟨M, hMM⟩ : ∃ M, M = l.length := ⟨_, rfl⟩
      have hglt := hown.lt g rfl
      have hU4s := HU4.out.size
      have HO5 := Lib.hid hown
      have HRow := Lib.hid (fun j (hj : j < M) => show ∃ G' C', w5.cell? ⟨g, j, none⟩ = some (.slice (some ⟨G', 0, none⟩) N C') ∧ w4.heap.size ≤ G' ∧ G' < w5.heap.size ∧ ∃ D, Rd w5 (some ⟨G', 0, none⟩) N D from by
        have hjl : j < l.length := by rw [← hMM]; exact hj
        have hck := hown.cells (g := g) rfl j (encB N G Cp (l.getD j 0)) (by simp [List.getD_eq_getElem?_getD, hjl])
        rw [Go.WideShapes.add_plain, Nat.zero_add] at hck
        obtain ⟨k1, k2, k3⟩ := hrow _ (getD_in hjl)
        exact ⟨_, _, hck, k1, k2, _, k3.rd⟩)
      rw [← hMM] at hp hM ⊢
      have hgr : g ≠ w.heap.size := by omega
      have HRd := Lib.hid (show RdrAt w5.drew w.heap.size a n' c' (p2 + 1) from HR5.out)
      have HUd := Lib.hid (show ButR w.heap.size w1.heap.size w1 w5.drew from HU5.out.trans (ButR.below ((Below.refl _ _).drew)))
      have HTd := Lib.hid (show Tab w5.drew ga N A L C Z from HT5.out.drewN 1)
      clear hown hrow hl hb5 hMM HO5
      go_wp2
      go_region_with (go_at_call 47; refine (pick_any w.heap.size n' c' (p2 + 1) M a B _ HRd.out (HB1.out.but HAL1.out HUd.out) HAB.out hn2 (by omega) (by omega) (by omega)).mono ?_; rintro e w6 ⟨z, rfl, hz, hR6, hK6⟩; obtain ⟨G', C', hcz, hG1, hG2, D, hD⟩ := HRow.out z hz; have hc6 : w6.cell? ⟨g, z, none⟩ = some (.slice (some ⟨G', 0, none⟩) N C') := (hK6.cell (p := ⟨g, z, none⟩) (by show g < w.heap.size ∨ w.heap.size + 1 ≤ g; omega)).trans (by simpa using hcz); have HD6 := Lib.hid (rd_but (show Rd w5.drew (some ⟨G', 0, none⟩) N D from hD.drewN 1) (show G' ≠ w.heap.size by omega) hK6); have HU6 := Lib.hid (Hb1.out.trans ((HUd.out.trans (ButR.keeps hK6)).toBelow (Nat.le_of_lt hlt1))); have HT6 := Lib.hid (tab_but HTd.out HAp.out hlt1 (ButR.keeps hK6)); clear hR6 hK6 hcz hG1 hG2 hD)
      all_goals (
        go_wp2
        go_ret2
        exact ⟨ga, N, gc, A, L, C, Z, some ⟨G', 0, none⟩, N, C', D, rfl, ⟨hN1, hN4, hgc⟩, hN4, HL.out, HT6.out, HD6.out, HU6.out⟩)
    · have d0 : ((y : Int) == 0) = false := beq_eq_false_iff_ne.2 (by omega)
      clear hy0
      go_wp2_with fail
      refine (l92Deal_any w.heap.size n' c' (p2 + 1) w1.heap.size N gc a ga B A L C Z w4 HR4.out (HB1.out.but HAL1.out HU4.out) (fun h0 b o e => ⟨by have := HU4.out.size; have := (HAL1.out h0 b o e).1; omega, HAB.out h0 b o e⟩) hn2 (by omega) hN1 hN4 (HL.out 0 hN1).1 (HL.out 0 hN1).2 HT4.out HAp.out hlt1).mono ?_
      rintro e w5 ⟨g, cap, Y, p5, rfl, hg, hY, hR5, hp5, hU5⟩
      have HY := Lib.hid hY
      have HU5 := Lib.hid (Hb1.out.trans ((HU4.out.trans (hU5.mono HU4.out.size)).toBelow (Nat.le_of_lt hlt1)))
      have HT5 := Lib.hid (tab_but HT4.out HAp.out hlt1 hU5)
      clear hY hR5 hU5
      go_wp2
      go_ret2
      exact ⟨ga, N, gc, A, L, C, Z, some ⟨g, 0, none⟩, N, cap, Y, rfl, ⟨hN1, hN4, hgc⟩, hN4, HL.out, HT5.out, HY.out, HU5.out⟩
  · have T1 := Lib.hid (tt_no hok)
    rw [T1.out]
    clear hok
    go_wp2_with fail
    refine (l92Deal_any w.heap.size n' c' p2 w1.heap.size N gc a ga B A L C Z w3 HR3.out (HB1.out.but HAL1.out HU3.out) (fun h0 b o e => ⟨by have := HU3.out.size; have := (HAL1.out h0 b o e).1; omega, HAB.out h0 b o e⟩) hn2 (by omega) hN1 hN4 (HL.out 0 hN1).1 (HL.out 0 hN1).2 HT3.out HAp.out hlt1).mono ?_
    rintro e w5 ⟨g, cap, Y, p5, rfl, hg, hY, hR5, hp5, hU5⟩
    have HY := Lib.hid hY
    have HU5 := Lib.hid (Hb1.out.trans ((HU3.out.trans (hU5.mono HU3.out.size)).toBelow (Nat.le_of_lt hlt1)))
    have HT5 := Lib.hid (tab_but HT3.out HAp.out hlt1 hU5)
    clear hY hR5 hU5
    go_wp2
    go_ret2
    exact ⟨ga, N, gc, A, L, C, Z, some ⟨g, 0, none⟩, N, cap, Y, rfl, ⟨hN1, hN4, hgc⟩, hN4, HL.out, HT5.out, HY.out, HU5.out⟩
end Go.Proofs.Ytbmkgkiochhdmaa
