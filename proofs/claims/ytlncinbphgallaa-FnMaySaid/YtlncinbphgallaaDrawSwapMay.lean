/- The model's DrawSwapMay: drawn wishes, a drawn row, two people whose swap is often welcome. -/
import Derived.Test.YtlncinbphgallaaDrawPair
import Derived.Test.YtlncinbphgallaaL3Both
import Derived.Test.YtlncinbphgallaaL4All
namespace Go.Proofs.Ytlncinbphgallaa
set_option linter.unusedVariables false
set_option linter.unusedSimpArgs false
open Go.RowKit

theorem RdrAt.put {w : World} {r : Nat} {a : Option Addr} {n c p : Nat} (h : RdrAt w r a n c p) (q : Nat) : RdrAt (w.setCell ⟨r, 1, none⟩ (.int .i64 (q : Int))) r a n c q := by
  have := heap_setCell_same w r 1 _ _ (.int .i64 (q : Int)) h
  unfold RdrAt
  rw [this]
  rfl

set_option maxHeartbeats 6400000 in
theorem drawSwapMay_any (n c : Nat) (a : Option Addr) (B : Nat → Nat) (w : World) (hn : n ≤ 1048576) (hc : n ≤ c) (hb : RdB w a n B) (hab : 0 < n → ∀ b o, a = some ⟨b, o, none⟩ → b < w.heap.size) :
    Calls Try.prog 38 #[.slice a n c] w (DrewPair w) := by
  have HP := Lib.hid (l92Pair_any n c a B w hn hc hb hab)
  have HB := Lib.hid hb
  have HAL := Lib.hid hab
  clear hb hab
  go_enter Try.func38, Try.ntmps38
  go_wp2_with fail
  refine HP.out.mono ?_
  rintro e w1 ⟨ga, N, gc, A, L, C, Z, b, m, d, X, i, k, rfl, ⟨⟨hN1, hN5⟩, hmd, hm6, ⟨hi1, hi2⟩, hk1, hk2⟩, hL, hT, hX, hb1⟩
  have HL := Lib.hid hL
  have HL2 := Lib.hid (show ∀ s, s < N → L s ≤ 1048576 from fun s hs => by have := hL s hs; omega)
  have HT := Lib.hid hT
  have HX := Lib.hid hX
  have B1 := Lib.hid hb1
  clear hL hT hX hb1
  go_wp2_with fail
  refine (l6Open_any n c a _ hn hc).mono ?_
  rintro e w2 ⟨n', c', rfl, hn2, hnn, hR2, hs2, hb2⟩
  have c1 := hR2.cell1
  have f1 := hR2.frozen 1
  have HB2 := Lib.hid ((HB.out.below (Nat.le_refl _) (B1.out.trans (hb2.mono B1.out.size))).sub hnn)
  have R2 := Lib.hid hR2
  have B2 := Lib.hid hb2
  have hlt2 : w1.heap.size < w2.heap.size := by omega
  have hw1 := B1.out.size
  have HAB := Lib.hid (show 0 < n' → ∀ b o, a = some ⟨b, o, none⟩ → b ≠ w1.heap.size from fun h0 b o e => by have := HAL.out (by omega) b o e; omega)
  clear hR2 hb2 hs2
  obtain ⟨w3, hw3⟩ : ∃ w3, w2.setCell ⟨w1.heap.size, 1, none⟩ (.int .i64 61) = w3 := ⟨_, rfl⟩
  have R3 := Lib.hid (show RdrAt w3 w1.heap.size a n' c' 61 by rw [← hw3]; exact R2.out.put 61)
  have U3 := Lib.hid (show Below w1.heap.size w1 w3 by rw [← hw3]; exact B2.out.setCell (p := ⟨w1.heap.size, 1, none⟩) (Nat.le_refl _) _)
  have HB3 := Lib.hid (show RdB w3 a n' B from (HB.out.below (Nat.le_refl _) (B1.out.trans (U3.out.mono B1.out.size))).sub hnn)
  have W3 := Lib.hid hw3
  clear hw3 R2 HB2
  by_cases hG : GivenOk N L Z m X
  · have T1 := Lib.hid (tt_of hG)
    have HG := Lib.hid hG
    obtain rfl : m = N := hG.2.1
    have HBo := Lib.hid (l3Both_any m gc ga A L C Z m d b X w3 (by omega) HL2.out (HT.out.below (Nat.le_refl _) U3.out) (by omega) (HX.out.below (Nat.le_refl _) U3.out))
    clear hG
    go_wp2_with (go_at_call 55; rw [W3.out]; refine HBo.out.mono ?_; rintro e w' ⟨rfl, rfl⟩; rw [T1.out])
    clear c1 f1
    go_wp2_with fail
    refine (pick_any w1.heap.size n' c' 61 2 a B _ R3.out HB3.out HAB.out hn2 (by omega) (by omega) (by omega)).mono ?_
    rintro e w4 ⟨x, rfl, hx, hR4, hK4⟩
    have R4 := Lib.hid hR4
    have U4 := Lib.hid (show Below w1.heap.size w1 w4 from U3.out.trans (hK4.below))
    clear hR4 hK4
    by_cases h0 : x = 0
    · have d1 : ((x : Int) == 0) = true := by subst h0; rfl
      clear h0
      go_wp2_with fail
      refine (l4All_any m gc ga A L C Z d b X _ HG.out (HT.out.below (Nat.le_refl _) U4.out) (HX.out.below (Nat.le_refl _) U4.out)).mono ?_
      rintro e w5 ⟨v, G', Cp, rfl, hMk, hb5⟩
      obtain ⟨a5, c5, rfl, hO5⟩ := hMk.slice
      have hM25 : (pairsL (mayL m Z X)).length ≤ 25 := by rw [pairsL_length]; exact mayL_le hN5
      obtain ⟨M, hM⟩ : ∃ M, M = (pairsL (mayL m Z X)).length := ⟨_, rfl⟩
      rw [← hM] at hM25 hO5 ⊢
      have AT := Lib.hid (show ∀ x, x < M → ∃ i k : Nat, (i < m ∧ k < m) ∧ lenL (pairsL (mayL m Z X)) x = 2 ∧ nthL (pairsL (mayL m Z X)) x 0 = (i : Nat) ∧ nthL (pairsL (mayL m Z X)) x 1 = (k : Nat) from fun x hx => by
        rw [hM, pairsL_length] at hx
        obtain ⟨i, k, h1, h2, h3, h4⟩ := pairs_at hx
        obtain ⟨g1, g2, g3⟩ := mem_mayL.1 h1
        dsimp only at g1 g2 g3
        exact ⟨i, k, ⟨by omega, g2⟩, h2, h3, h4⟩)
      have hw4 := U4.out.size
      have hr4 := R4.out.lt
      have O5 := Lib.hid hO5
      have R5 := Lib.hid (R4.out.of_block (hb5.block _ hr4))
      have U5 := Lib.hid (U4.out.trans (hb5.mono hw4))
      have HB5 := Lib.hid (show RdB w5 a n' B from (HB.out.below (Nat.le_refl _) (B1.out.trans (U5.out.mono B1.out.size))).sub hnn)
      clear hMk hb5 hO5 hM
      by_cases hM0 : 0 < M
      · have d2 : decide (0 < M) = true := decide_eq_true hM0
        go_wp2_with fail
        refine (pick_any w1.heap.size n' c' 62 M a B _ R5.out HB5.out HAB.out hn2 (by omega) hM0 (by omega)).mono ?_
        rintro e w6 ⟨y, rfl, hy, hR6, hK6⟩
        obtain ⟨i', k', ⟨hi', hk'⟩, hl2, h0', h1'⟩ := AT.out y hy
        obtain ⟨bt, ot, rfl, hct, hrow⟩ := (O5.out.keeps (.inr (by omega)) hK6).tab y hy
        rw [hl2] at hct hrow
        obtain ⟨bi, oi, hae, hci⟩ := hrow 0 (by omega)
        obtain ⟨bi', oi', hae', hck⟩ := hrow 1 (by omega)
        rw [hae] at hae'
        simp only [Option.some.injEq, Addr.mk.injEq, and_true] at hae'
        obtain ⟨rfl, rfl⟩ := hae'
        rw [hae] at hct
        rw [h0', Nat.add_zero] at hci
        rw [h1'] at hck
        have U6 := Lib.hid (U5.out.trans hK6.below)
        have i1 : (0 : Int) ≤ (y : Int) := by omega
        have i2 : (y : Int) < (M : Int) := by omega
        clear hrow hK6 hR6 hae h0' h1' hl2
        go_wp2_with fail
        go_quiet (fail)
        rename_i nq
        go_wp2
        (try simp only [Exit.inBlock, Exit.then])
        refine bodyPost_ret (results_four rfl _ _ _) rfl ?_
        exact ⟨ga, m, gc, A, L, C, Z, b, m, d, X, i', k', rfl, ⟨⟨hN1, hN5⟩, hmd, hm6, ⟨by omega, by omega⟩, by omega, by omega⟩, HL.out, (HT.out.below (Nat.le_refl _) U6.out).drewN nq, (HX.out.below (Nat.le_refl _) U6.out).drewN nq, below_drewN (B1.out.trans (U6.out.mono B1.out.size)) nq⟩
      · have d2 : decide (0 < M) = false := decide_eq_false hM0
        go_wp2
        (try simp only [Exit.inBlock, Exit.then])
        refine bodyPost_ret (results_four rfl _ _ _) rfl ?_
        exact ⟨ga, m, gc, A, L, C, Z, b, m, d, X, i, k, rfl, ⟨⟨hN1, hN5⟩, hmd, hm6, ⟨by omega, by omega⟩, by omega, by omega⟩, HL.out, HT.out.below (Nat.le_refl _) U5.out, HX.out.below (Nat.le_refl _) U5.out, B1.out.trans (U5.out.mono B1.out.size)⟩
    · have d1 : ((x : Int) == 0) = false := by simp; omega
      clear h0
      go_wp2
      (try simp only [Exit.inBlock, Exit.then])
      refine bodyPost_ret (results_four rfl _ _ _) rfl ?_
      exact ⟨ga, m, gc, A, L, C, Z, b, m, d, X, i, k, rfl, ⟨⟨hN1, hN5⟩, hmd, hm6, ⟨by omega, by omega⟩, by omega, by omega⟩, HL.out, HT.out.below (Nat.le_refl _) U4.out, HX.out.below (Nat.le_refl _) U4.out, B1.out.trans (U4.out.mono B1.out.size)⟩
  · have T1 := Lib.hid (tt_no hG)
    have HBo := Lib.hid (l3Both_any N gc ga A L C Z m d b X w3 (by omega) HL2.out (HT.out.below (Nat.le_refl _) U3.out) (by omega) (HX.out.below (Nat.le_refl _) U3.out))
    clear hG
    go_wp2_with (go_at_call 55; rw [W3.out]; refine HBo.out.mono ?_; rintro e w' ⟨rfl, rfl⟩; rw [T1.out])
    clear c1 f1
    (try simp only [Exit.inBlock, Exit.then])
    refine bodyPost_ret (results_four rfl _ _ _) rfl ?_
    exact ⟨ga, N, gc, A, L, C, Z, b, m, d, X, i, k, rfl, ⟨⟨hN1, hN5⟩, hmd, hm6, ⟨by omega, by omega⟩, by omega, by omega⟩, HL.out, HT.out.below (Nat.le_refl _) U3.out, HX.out.below (Nat.le_refl _) U3.out, B1.out.trans (U3.out.mono B1.out.size)⟩
end Go.Proofs.Ytlncinbphgallaa
