/- The draw of different numbers. -/
import Derived.Test.YtnaegnjgpnakfaaDoorAppendAny
import Derived.Lib.MinMax
namespace Go.Proofs.YtnaegnjgpnakfaaDoor
set_option linter.unusedVariables false
open Go.RowKit

set_option maxHeartbeats 3200000 in
theorem l91Different_any (r n c p m : Nat) (a : Option Addr) (B : Nat → Nat) (w : World) (hR : RdrAt w r a n c p) (hb : RdB w a n B) (hab : 0 < n → ∀ b o, a = some ⟨b, o, none⟩ → b < w.heap.size ∧ b ≠ r) (hn : n ≤ 2000) (hp : p ≤ 1000) (hm : m ≤ 6) :
    Calls Tryd.prog 95 #[.pointer (some ⟨r, 0, none⟩), .int .i64 m] w (DrewAny r a n c p m w) := by
  obtain ⟨i0, hi, hz0, hz1, hz2⟩ := info_parts Tryd.infoInt
  have hrlt := hR.lt
  have HR0 := Lib.hid (hR.alloc (.cells #[] 3))
  have HB := Lib.hid hb
  have HAL := Lib.hid hab
  have HAB := Lib.hid (show 0 < n → ∀ b o, a = some ⟨b, o, none⟩ → b ≠ r from fun h0 b o e => (hab h0 b o e).2)
  clear hR hb hab
  go_enter Tryd.func95, Tryd.ntmps95
  go_wp2
  have R0 := Lib.hid (show (w.alloc (.cells #[] 3)).ownsRow w.heap.size 3 1 (.slice (some ⟨w.heap.size, 0, none⟩) 0 0) 0 (cellsL 0 (fun _ => 0)) from World.ownsRow_made w #[] 0 (Nat.le_refl _) (Nat.zero_le _) (by simp))
  have U0 := Lib.hid (ButR.alloc (ButR.refl r w.heap.size w) (Nat.le_refl _) (.cells #[] 3))
  go_loopw [5, 6, 7] (fun row s _ wi => ∃ k : Nat, k ≤ m ∧ s = .int .i64 k ∧ ∃ g cap Y p', row = .slice (some ⟨g, 0, none⟩) k cap ∧ wi.ownsRow w.heap.size 3 1 (.slice (some ⟨g, 0, none⟩) k cap) k (cellsL k Y) ∧ RdrAt wi r a n c p' ∧ p' ≤ p + k ∧ ButR r w.heap.size w wi) (fun _ s _ _ => m - (intOf s).toNat)
  case atStart => exact ⟨0, Nat.zero_le _, rfl, w.heap.size, 0, fun _ => 0, p, rfl, R0.out, HR0.out, by omega, U0.out⟩
  case round =>
    obtain ⟨k, hk, rfl, g, cap, Y, p', rfl, hown, hR, hp', hU⟩ := hrel
    clear R0 HR0 U0
    have HO := Lib.hid hown
    have HR := Lib.hid hR
    have HU := Lib.hid hU
    have hsz := hU.size
    obtain ⟨hkc, hgb, hglt⟩ := owns_cap hown
    clear hown hR hU
    by_cases hlt : k < m
    · go_wp2_with fail
      rw [show ((k : Int) + 1) = ((k + 1 : Nat) : Int) by omega]
      refine (pick_any r n c p' (k + 1) a B _ HR.out (HB.out.but HAL.out HU.out) HAB.out hn (by omega) (by omega) (by omega)).mono ?_
      rintro e w5 ⟨x, rfl, hx, hR5, hK5⟩
      have HR5 := Lib.hid hR5
      have hs5 : w5.heap.size = wr.heap.size := hK5.size
      have HU5 := Lib.hid (HU.out.trans (ButR.keeps hK5))
      have O5 := Lib.hid (owns_but HO.out hrlt hK5)
      have RX := Lib.hid (show Rd w5 (some ⟨g, 0, none⟩) x Y from fun j hj => owns_rd O5.out j (by omega))
      obtain ⟨o', hif, ho'⟩ : ∃ o' : Nat, (if cap = x then some (⟨g, 0, none⟩ : Addr) else some ⟨g, x, none⟩) = some ⟨g, o', none⟩ ∧ (cap = x ∨ o' = x) := by
        by_cases e : cap = x
        · exact ⟨0, by rw [if_pos e], .inl e⟩
        · exact ⟨x, by rw [if_neg e], .inr rfl⟩
      have RY := Lib.hid (show Rd w5 (some ⟨g, o', none⟩) (k - x) (fun j => Y (x + j)) from fun j hj => by
        obtain ⟨b', q', he, hc⟩ := owns_rd O5.out (x + j) (by omega)
        simp only [Option.some.injEq, Addr.mk.injEq, and_true] at he
        obtain ⟨rfl, rfl⟩ := he
        rw [Nat.zero_add] at hc
        have e : o' = x := by omega
        subst e
        exact ⟨g, o', rfl, hc⟩)
      clear ho'
      have hx1 : (x : Int) ≤ (k : Int) := by omega
      have hx2 : (x : Int) ≤ (cap : Int) := by omega
      have hx3 : x ≤ k := by omega
      have hx4 : x ≤ cap := by omega
      have S5 := Lib.hid hs5
      clear hR5 hK5 hs5
      go_wp2
      go_region_law (first
        | (refine step_append_any _ (by rfl) (.tmp 20) (.tmp 23) 23 (by rfl) w5.heap.size 3 i0 Tryd.underlying23 hi hz0 hz1 hz2 _ 0 0 [] (by rfl) (owns_empty (by first | exact heap_alloc_last _ _ | exact (Below.heap_alloc _ _ _ (by simp)).trans (heap_alloc_last _ _) | exact (by have h := heap_alloc_last (w5.alloc (.cells #[.int .i64 k] 3)) (.cells #[] 3); rw [World.size_alloc] at h; exact h)) (by first | exact Nat.le_refl _ | (simp; done) | (simp; omega) | omega)) ⟨g, 0, none⟩ x cap (cellsL x Y) (by rfl) (cellsL_length x Y) (RX.out.news (by repeat (first | assumption | exact Below.refl _ _ | refine Below.drew ?_ | refine below_alloc ?_ _))) (cellsL_one x Y) (by omega) (by first | exact Nat.le_refl _ | (simp; done) | (simp; omega) | omega) ?_; intro g1 cap1 w6 hown1 hgrow1; simp only [Nat.zero_add, List.nil_append] at hown1; have hb1 : Below w5.heap.size w5 w6 := Below.grown (by repeat (first | assumption | exact Below.refl _ _ | refine Below.drew ?_ | refine below_alloc ?_ _)) hgrow1 (by first | exact Nat.le_refl _ | (simp; done) | (simp; omega) | omega) (fun k h => by cases h; first | exact Nat.le_refl _ | simp | omega))
        | (refine step_append_any _ (by rfl) (.tmp 24) (.tmp 26) 23 (by rfl) w5.heap.size 3 i0 Tryd.underlying23 hi hz0 hz1 hz2 g1 x cap1 (cellsL x Y) (by rfl) (by first | exact hown1 | exact hown1.alloc _) ⟨_, 0, none⟩ 1 1 [.int .i64 k] (by rfl) (by rfl) (news_one (by first | (simp; done) | exact hgrow1.cell (by simp) (fun e => by simp at e))) (by simp [Value.oneCell']) (by omega) (by have := hb1.size; first | omega | (simp; omega)) ?_; intro g2 cap2 w7 hown2 hgrow2; have hb2 : Below w5.heap.size w5 w7 := Below.grown (by repeat (first | assumption | exact Below.refl _ _ | refine Below.drew ?_ | refine below_alloc ?_ _)) hgrow2 (by have := hb1.size; first | omega | (simp; omega)) (fun k h => by cases h; exact (owns_cap hown1).2.1))
        | (refine step_append_any _ (by rfl) (.tmp 27) (.tmp 30) 23 (by rfl) w5.heap.size 3 i0 Tryd.underlying23 hi hz0 hz1 hz2 g2 (x + 1) cap2 (cellsL x Y ++ [.int .i64 k]) (by rfl) (by first | exact hown2 | exact hown2.alloc _) ⟨g, o', none⟩ (k - x) _ (cellsL (k - x) fun j => Y (x + j)) (by rfl) (cellsL_length _ _) (RY.out.news (by repeat (first | assumption | exact Below.refl _ _ | refine Below.drew ?_ | refine below_alloc ?_ _))) (cellsL_one _ _) (by omega) (by have := hb2.size; first | omega | (simp; omega)) ?_; intro g3 cap3 w8 hown3 hgrow3; have hb3 : Below w5.heap.size w5 w8 := Below.grown (by repeat (first | assumption | exact Below.refl _ _ | refine Below.drew ?_ | refine below_alloc ?_ _)) hgrow3 (by have := hb2.size; first | omega | (simp; omega)) (fun k h => by cases h; exact (owns_cap hown2).2.1)))
      all_goals
        have el : x + 1 + (k - x) = k + 1 := by omega
        rw [el] at hown3
        obtain ⟨Y', hq⟩ := owns_cells hown3 (by
          intro u hu
          simp only [List.mem_append, cellsL, List.mem_map, List.mem_singleton] at hu
          rcases hu with (⟨_, _, rfl⟩ | rfl) | ⟨_, _, rfl⟩ <;> exact ⟨_, rfl⟩)
        have H3 := Lib.hid hq
        have B3 := Lib.hid hb3
        have EL := Lib.hid el
        clear hown1 hgrow1 hb1 hown2 hgrow2 hb2 hown3 hgrow3 hb3 hq el
        go_wp2
        go_roundw
        case rel =>
          have hs5 := S5.out
          refine ⟨k + 1, by omega, by go_num, g3, cap3, Y', p' + 1, by rw [EL.out], owns_base H3.out (by omega), HR5.out.of_block (B3.out.block r (by omega)), by omega, HU5.out.trans (ButR.below (B3.out.mono (by omega)))⟩
        case measure => simp [intOf]; omega
    · obtain rfl : k = m := by omega
      obtain ⟨M1, hM1, hM2, hM3⟩ : ∃ M1 : Nat, max (1 : Int) ((k : Int) - 1) = M1 ∧ 1 ≤ M1 ∧ M1 ≤ 5 := ⟨max 1 (k - 1), by omega, by omega, by omega⟩
      have QM := Lib.hid hM1
      clear hM1
      go_wp2_with fail
      rw [QM.out]
      refine (pick_any r n c p' M1 a B _ HR.out (HB.out.but HAL.out HU.out) HAB.out hn (by omega) hM2 (by omega)).mono ?_
      rintro e w7 ⟨y, rfl, hy, hR7, hK7⟩
      have HR7 := Lib.hid hR7
      have HU7 := Lib.hid (HU.out.trans (ButR.keeps hK7))
      have O7 := Lib.hid (owns_but HO.out hrlt hK7)
      have S7 := Lib.hid (show w7.heap.size = wr.heap.size from hK7.size)
      clear hR7 hK7
      obtain ⟨q, hq, hq1⟩ : ∃ q : Nat, min (k : Int) (2 + (y : Int)) = (q : Int) ∧ q ≤ k := ⟨min k (2 + y), by omega, by omega⟩
      have hqc : q ≤ cap := by omega
      go_wp2_with fail
      refine (pick_any r n c (p' + 1) 30 a B _ HR7.out (HB.out.but HAL.out HU7.out) HAB.out hn (by omega) (by omega) (by omega)).mono ?_
      rintro e w8 ⟨v, rfl, hv, hR8, hK8⟩
      have HR8 := Lib.hid hR8
      have HU8 := Lib.hid (HU7.out.trans (ButR.keeps hK8))
      have O8 := Lib.hid (owns_but O7.out hrlt hK8)
      have S8 := Lib.hid (show w8.heap.size = wr.heap.size by have h : w8.heap.size = w7.heap.size := hK8.size; rw [h, S7.out])
      have RQ := Lib.hid (show Rd w8 (some ⟨g, 0, none⟩) q Y from fun j hj => owns_rd O8.out j (by omega))
      clear hR8 hK8
      by_cases hv0 : v = 0
      · subst hv0
        go_wp2_with (first
          | (refine wpList_append_any _ (by rfl) (.tmp 45) (.tmp 46) 23 (by rfl) w8.heap.size 3 i0 Tryd.underlying23 hi hz0 hz1 hz2 _ 0 0 [] (by rfl) (owns_empty (heap_alloc_last _ _) (by first | exact Nat.le_refl _ | (simp; done) | (simp; omega) | omega)) ⟨g, 0, none⟩ q cap (cellsL q Y) (by rfl) (cellsL_length q Y) (RQ.out.news (by repeat (first | assumption | exact Below.refl _ _ | refine Below.drew ?_ | refine below_alloc ?_ _))) (cellsL_one q Y) (by omega) (by first | exact Nat.le_refl _ | (simp; done) | (simp; omega) | omega) ?_; intro g1 cap1 w9 hown1 hgrow1; simp only [Nat.zero_add, List.nil_append] at hown1; have hb1 : Below w8.heap.size w8 w9 := Below.grown (by repeat (first | assumption | exact Below.refl _ _ | refine Below.drew ?_ | refine below_alloc ?_ _)) hgrow1 (by first | exact Nat.le_refl _ | (simp; done) | (simp; omega) | omega) (fun k h => by cases h; first | exact Nat.le_refl _ | simp | omega))
          | (refine wpList_append_any _ (by rfl) (.tmp 47) (.tmp 50) 23 (by rfl) w8.heap.size 3 i0 Tryd.underlying23 hi hz0 hz1 hz2 g1 q cap1 (cellsL q Y) (by rfl) (by first | exact hown1 | exact hown1.alloc _) ⟨_, 0, none⟩ 1 1 [.int .i64 ((k : Int) - 1)] (by rfl) (by rfl) (news_one (by first | (simp; done) | exact hgrow1.cell (by simp) (fun e => by simp at e))) (by simp [Value.oneCell']) (by omega) (by have := hb1.size; first | omega | (simp; omega)) ?_; intro g2 cap2 w10 hown2 hgrow2; have hb2 : Below w8.heap.size w8 w10 := Below.grown (by repeat (first | assumption | exact Below.refl _ _ | refine Below.drew ?_ | refine below_alloc ?_ _)) hgrow2 (by have := hb1.size; first | omega | (simp; omega)) (fun k h => by cases h; exact (owns_cap hown1).2.1); rw [cellsL_snoc] at hown2; have N2 := Lib.hid hown2; have B2 := Lib.hid hb2; clear hown1 hgrow1 hb1 hown2 hgrow2 hb2))
        go_ret
        have hs8 := S8.out
        have hc2 := owns_cap N2.out
        exact ⟨g2, q + 1, cap2, _, p' + 1 + 1, rfl, ⟨by omega, hc2.2.2, hc2.1, by omega⟩, owns_rd N2.out, HR8.out.of_block (B2.out.block r (by omega)), by omega, HU8.out.trans (ButR.below (B2.out.mono (by omega)))⟩
      · have hne : ((v : Int) == 0) = false := beq_eq_false_iff_ne.2 (by omega)
        go_wp2_with (refine wpList_append_any _ (by rfl) (.tmp 52) (.tmp 53) 23 (by rfl) w8.heap.size 3 i0 Tryd.underlying23 hi hz0 hz1 hz2 _ 0 0 [] (by rfl) (owns_empty (heap_alloc_last _ _) (by first | exact Nat.le_refl _ | (simp; done) | (simp; omega) | omega)) ⟨g, 0, none⟩ q cap (cellsL q Y) (by rfl) (cellsL_length q Y) (RQ.out.news (by repeat (first | assumption | exact Below.refl _ _ | refine Below.drew ?_ | refine below_alloc ?_ _))) (cellsL_one q Y) (by omega) (by first | exact Nat.le_refl _ | (simp; done) | (simp; omega) | omega) ?_; intro g1 cap1 w9 hown1 hgrow1; simp only [Nat.zero_add, List.nil_append] at hown1; have hb1 : Below w8.heap.size w8 w9 := Below.grown (by repeat (first | assumption | exact Below.refl _ _ | refine Below.drew ?_ | refine below_alloc ?_ _)) hgrow1 (by first | exact Nat.le_refl _ | (simp; done) | (simp; omega) | omega) (fun k h => by cases h; first | exact Nat.le_refl _ | simp | omega))
        have N2 := Lib.hid hown1
        have B2 := Lib.hid hb1
        clear hown1 hgrow1 hb1
        go_wp2
        go_ret
        have hs8 := S8.out
        have hc2 := owns_cap N2.out
        exact ⟨g1, q, cap1, _, p' + 1 + 1, rfl, ⟨by omega, hc2.2.2, hc2.1, by omega⟩, owns_rd N2.out, HR8.out.of_block (B2.out.block r (by omega)), by omega, HU8.out.trans (ButR.below (B2.out.mono (by omega)))⟩
end Go.Proofs.YtnaegnjgpnakfaaDoor
