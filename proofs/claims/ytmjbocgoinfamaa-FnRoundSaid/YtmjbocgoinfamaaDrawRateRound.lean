/- The model's DrawRateRound: a drawn table and a drawn row. -/
import Derived.Test.YtmjbocgoinfamaaDrawRateWay
import Derived.BigQuiet
namespace Go.Proofs.Ytmjbocgoinfamaa
set_option linter.unusedVariables false
open Go.RowKit

set_option maxHeartbeats 3200000 in
theorem drawRateRound_any (n c : Nat) (a : Option Addr) (B : Nat → Nat) (w : World) (hn : n ≤ 1048576) (hc : n ≤ c) (hb : RdB w a n B) (hab : 0 < n → ∀ b o, a = some ⟨b, o, none⟩ → b < w.heap.size) :
    Calls Try.prog 18 #[.slice a n c] w (DrewWay w) := by
  have HB := Lib.hid hb
  have HAL := Lib.hid hab
  clear hb hab
  go_enter Try.func18, Try.ntmps18
  go_wp2_with fail
  refine (l6Open_any n c a _ hn hc).mono ?_
  rintro e w1 ⟨n', c', rfl, hn2, hnn, hR1, hs1, hb1⟩
  have HB1 := Lib.hid ((HB.out.below (Nat.le_refl _) hb1).sub hnn)
  have HR1 := Lib.hid hR1
  have Hb1 := Lib.hid hb1
  have hlt1 : w.heap.size < w1.heap.size := by omega
  have HAL1 := Lib.hid (show 0 < n' → ∀ b o, a = some ⟨b, o, none⟩ → b < w1.heap.size ∧ b ≠ w.heap.size from fun h0 b o e => by have := HAL.out (by omega) b o e; exact ⟨by omega, by omega⟩)
  have HAB := Lib.hid (show 0 < n' → ∀ b o, a = some ⟨b, o, none⟩ → b ≠ w.heap.size from fun h0 b o e => (HAL1.out h0 b o e).2)
  clear hR1 hb1 hs1
  go_wp2_with fail
  refine (l91Table_any w.heap.size n' c' 0 a B _ HR1.out HB1.out HAL1.out hn2 (by omega)).mono ?_
  rintro e w2 ⟨ga, N, gc, A, L, C, Z, p2, rfl, ⟨hN1, hN5⟩, ⟨hL, hAp⟩, hT, hR2, hp2, hU2⟩
  have HL := Lib.hid hL
  have HT2 := Lib.hid hT
  have HAp := Lib.hid hAp
  have HR2 := Lib.hid hR2
  have HU2 := Lib.hid hU2
  clear hL hAp hT hR2 hU2
  go_wp2_with fail
  refine (l91Different_any w.heap.size n' c' p2 N a B _ HR2.out (HB1.out.but HAL1.out HU2.out) (fun h0 b o e => ⟨by have := HU2.out.size; have := (HAL1.out h0 b o e).1; omega, HAB.out h0 b o e⟩) hn2 (by omega) (by omega)).mono ?_
  rintro e w3 ⟨g, m, cap, X, p3, rfl, ⟨hg1, hg2, hg3, hg4⟩, hX, hR3, hp3, hU3⟩
  have HX := Lib.hid hX
  have HR3 := Lib.hid hR3
  have HT3 := Lib.hid (tab_but HT2.out HAp.out hlt1 hU3)
  have HU3 := Lib.hid (HU2.out.trans (hU3.mono HU2.out.size))
  have hsz2 := HU2.out.size
  have hsz3 := HU3.out.size
  have S2 := Lib.hid hsz2
  have S3 := Lib.hid hsz3
  have hgr : g ≠ w.heap.size := by omega
  clear hX hR3 hU3 hsz2 hsz3
  obtain ⟨i0, hi, hz0, hz1, hz2⟩ := info_parts Try.infoInt
  have HI := Lib.hid hi
  have HZ0 := Lib.hid hz0
  have HZ1 := Lib.hid hz1
  have HZ2 := Lib.hid hz2
  clear hi hz0 hz1 hz2
  go_wp2
  go_loopw [7, 8] (fun s i wi => ∃ k : Nat, k ≤ m ∧ i = .int .i64 k ∧ ∃ t : Nat, s = .int .i64 t ∧ (t = 0 ∨ t < k) ∧ ∃ q, wi = w3.drewN q) (fun _ i _ => m - (intOf i).toNat)
  case atStart => exact ⟨0, Nat.zero_le _, rfl, 0, rfl, .inl rfl, 0, rfl⟩
  case round =>
    obtain ⟨k, hk, rfl, t, rfl, ht, q, rfl⟩ := hrel
    by_cases hlt : k < m
    · have htm : t < m := by omega
      have hck : w3.cell? ⟨g, k, none⟩ = some (.int .i64 (X k)) := by
        obtain ⟨b', o', he, hc⟩ := HX.out k hlt
        simp only [Option.some.injEq, Addr.mk.injEq, and_true] at he
        obtain ⟨rfl, rfl⟩ := he
        rw [Nat.zero_add] at hc
        exact hc
      have hct : w3.cell? ⟨g, t, none⟩ = some (.int .i64 (X t)) := by
        obtain ⟨b', o', he, hc⟩ := HX.out t htm
        simp only [Option.some.injEq, Addr.mk.injEq, and_true] at he
        obtain ⟨rfl, rfl⟩ := he
        rw [Nat.zero_add] at hc
        exact hc
      have HTT := Lib.hid ht
      clear ht
      by_cases hxx : X k < X t
      · have hd1 : decide (X k < X t) = true := decide_eq_true hxx
        clear hxx
        go_wp2
        go_quiet (fail)
        go_wp2
        go_roundw
        case rel => exact ⟨k + 1, by omega, by go_num, k, rfl, .inr (by omega), _, by first | rfl | rw [World.drewN_drewN]⟩
        case measure => simp [intOf]; omega
      · have hd1 : decide (X k < X t) = false := decide_eq_false hxx
        clear hxx
        go_wp2
        go_quiet (fail)
        go_wp2
        go_roundw
        case rel => exact ⟨k + 1, by omega, by go_num, t, rfl, by have := HTT.out; omega, _, by first | rfl | rw [World.drewN_drewN]⟩
        case measure => simp [intOf]; omega
    · obtain rfl : k = m := by omega
      have htk : t ≤ k := by omega
      have hbd := below_drewN (Below.refl w3.heap.size w3) q
      obtain ⟨w4, hw4⟩ : ∃ w4, w4 = w3.drewN q := ⟨_, rfl⟩
      have hs4 : w4.heap.size = w3.heap.size := by rw [hw4]; rfl
      have HR4 := Lib.hid (show RdrAt w4 w.heap.size a n' c' p3 by rw [hw4]; exact HR3.out.of_block rfl)
      rw [← hw4] at hbd ⊢
      have HX4 := Lib.hid (HX.out.below (Nat.le_refl _) hbd)
      have HT4 := Lib.hid (HT3.out.below (Nat.le_refl _) hbd)
      have HU4 := Lib.hid (HU3.out.trans (ButR.below (hbd.mono S3.out)))
      have S4 := Lib.hid hs4
      clear hbd hw4 hs4 ht
      go_wp2_with fail
      refine (pick_any w.heap.size n' c' p3 8 a B _ HR4.out (HB1.out.but HAL1.out HU4.out) HAB.out hn2 (by omega) (by omega) (by omega)).mono ?_
      rintro e w5 ⟨v, rfl, hv, hR5, hK5⟩
      have HT5 := Lib.hid (tab_but HT4.out HAp.out hlt1 (ButR.keeps hK5))
      have HX5 := Lib.hid (rd_but HX4.out hgr hK5)
      have HU5 := Lib.hid (Hb1.out.trans ((HU4.out.trans (ButR.keeps hK5)).toBelow (Nat.le_of_lt hlt1)))
      have S5 := Lib.hid (show w5.heap.size = w4.heap.size from hK5.size)
      clear hR5 hK5
      by_cases hv0 : v = 0
      · subst hv0
        go_wp2
        go_ret2
        exact ⟨ga, N, gc, A, L, C, Z, g, k, cap, X, rfl, ⟨hN1, hN5, hg3, by omega⟩, HL.out, HT5.out, HX5.out, HU5.out⟩
      · have hne : ((v : Int) == 0) = false := beq_eq_false_iff_ne.2 (by omega)
        have hx1 : (t : Int) ≤ (k : Int) := by omega
        have hx2 : (t : Int) ≤ (cap : Int) := by omega
        have hx4 : t ≤ cap := by omega
        have hx5 : (k : Int) ≤ (cap : Int) := by omega
        obtain ⟨o', hif, ho'⟩ : ∃ o' : Nat, (if cap = t then some (⟨g, 0, none⟩ : Addr) else some ⟨g, t, none⟩) = some ⟨g, o', none⟩ ∧ (cap = t ∨ o' = t) := by
          by_cases e : cap = t
          · exact ⟨0, by rw [if_pos e], .inl e⟩
          · exact ⟨t, by rw [if_neg e], .inr rfl⟩
        have RY := Lib.hid (show Rd w5 (some ⟨g, o', none⟩) (k - t) (fun j => X (t + j)) from fun j hj => by
          obtain ⟨b', q', he, hc⟩ := HX5.out (t + j) (by omega)
          simp only [Option.some.injEq, Addr.mk.injEq, and_true] at he
          obtain ⟨rfl, rfl⟩ := he
          rw [Nat.zero_add] at hc
          have e : o' = t := by omega
          subst e
          exact ⟨g, o', rfl, hc⟩)
        have RX := Lib.hid (show Rd w5 (some ⟨g, 0, none⟩) t X from fun j hj => HX5.out j (by omega))
        clear ho'
        go_wp2
        go_region_law (first
          | (refine step_append_any _ (by rfl) (.tmp 39) (.tmp 42) 24 (by rfl) w5.heap.size 3 i0 Try.underlying24 HI.out HZ0.out HZ1.out HZ2.out _ 0 0 [] (by rfl) (owns_empty (heap_alloc_last _ _) (by first | exact Nat.le_refl _ | (simp; done) | (simp; omega) | omega)) ⟨g, o', none⟩ (k - t) _ (cellsL (k - t) fun j => X (t + j)) (by rfl) (cellsL_length _ _) (RY.out.news (by repeat (first | assumption | exact Below.refl _ _ | refine Below.drew ?_ | refine below_alloc ?_ _))) (cellsL_one _ _) (by omega) (by first | exact Nat.le_refl _ | (simp; done) | (simp; omega) | omega) ?_; intro g1 cap1 w6 hown1 hgrow1; simp only [Nat.zero_add, List.nil_append] at hown1; have hb6 : Below w5.heap.size w5 w6 := Below.grown (by repeat (first | assumption | exact Below.refl _ _ | refine Below.drew ?_ | refine below_alloc ?_ _)) hgrow1 (by first | exact Nat.le_refl _ | (simp; done) | (simp; omega) | omega) (fun k h => by cases h; first | exact Nat.le_refl _ | simp | omega))
          | (refine step_append_any _ (by rfl) (.tmp 43) (.tmp 46) 24 (by rfl) w5.heap.size 3 i0 Try.underlying24 HI.out HZ0.out HZ1.out HZ2.out g1 (k - t) cap1 (cellsL (k - t) fun j => X (t + j)) (by rfl) (by first | exact hown1 | exact hown1.alloc _) ⟨g, 0, none⟩ t cap (cellsL t X) (by rfl) (cellsL_length _ _) (RX.out.news (by repeat (first | assumption | exact Below.refl _ _ | refine Below.drew ?_ | refine below_alloc ?_ _))) (cellsL_one _ _) (by omega) (by have := hb6.size; first | omega | (simp; omega)) ?_; intro g2 cap2 w7 hown2 hgrow2; have hb7 : Below w5.heap.size w5 w7 := Below.grown (by repeat (first | assumption | exact Below.refl _ _ | refine Below.drew ?_ | refine below_alloc ?_ _)) hgrow2 (by have := hb6.size; first | omega | (simp; omega)) (fun k h => by cases h; exact (owns_cap hown1).2.1)))
        have el : k - t + t = k := by omega
        have hown3 := hown2
        rw [el] at hown3
        obtain ⟨Y', hq⟩ := owns_cells hown3 (by
          intro u hu
          simp only [List.mem_append, cellsL, List.mem_map] at hu
          rcases hu with ⟨_, _, rfl⟩ | ⟨_, _, rfl⟩ <;> exact ⟨_, rfl⟩)
        have H7 := Lib.hid hq
        have B7 := Lib.hid hb7
        have EL := Lib.hid el
        clear hown1 hgrow1 hb6 hown2 hown3 hgrow2 hb7 hq el hif
        go_wp2
        go_ret2
        exact ⟨ga, N, gc, A, L, C, Z, g2, k, cap2, Y', (by first | rfl | exact EL.out ▸ rfl), ⟨hN1, hN5, (owns_cap H7.out).1, by omega⟩, HL.out, HT5.out.below (Nat.le_refl _) B7.out, owns_rd H7.out, HU5.out.trans (B7.out.mono HU5.out.size)⟩
end Go.Proofs.Ytmjbocgoinfamaa
