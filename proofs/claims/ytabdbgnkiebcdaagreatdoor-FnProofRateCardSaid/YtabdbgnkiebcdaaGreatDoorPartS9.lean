/- Texts joined: RateFirst, Lowest, RateFive, Has, Five, Change, RateStep, RateIn, PriceFind, ProofRate, DrawWishes, DrawOrder. -/
import Derived.Test.YtabdbgnkiebcdaaGreatDoorPartS8
import Derived.Test.YtabdbgnkiebcdaaGreatDoorPartS7
import Derived.Test.YtabdbgnkiebcdaaGreatDoorPartS5
import Derived.Test.YtabdbgnkiebcdaaGreatDoorProg
import Derived.Test.YtabdbgnkiebcdaaGreatDoorPartS1
import Derived.Test.YtabdbgnkiebcdaaGreatDoorPartS4
import Derived.Test.YtabdbgnkiebcdaaGreatDoorPartS2
import Derived.IntWalk
import Derived.Test.YtabdbgnkiebcdaaGreatDoorPartS6
import Derived.Test.YtabdbgnkiebcdaaGreatDoorPartS3
import Derived.Laws.OwnMore
namespace Go.Proofs.YtabdbgnkiebcdaaGreatDoor
set_option linter.unusedVariables false
set_option linter.unusedSimpArgs false
open Go.RowKit
attribute [local go_sem] Oper.semAt_some wide_fn wide_round_fn

/-- What the round leaves that hands back the first list. -/
def FirstX (s tI : Nat) (w : World) (c' : Code) (V : Nat → Prop) (pre : List (List Int)) (Wx : World) : Prop :=
  c' = .ret ∧ ∃ D g cap, pre = [D] ∧ V = (fun k => k < s + 2 ∨ k = g) ∧ s + 2 ≤ g ∧ Below s w Wx ∧ Wx.cell? ⟨s, 0, none⟩ = some (.slice (some ⟨g, 0, none⟩) D.length cap) ∧ Wx.cell? ⟨s + 1, 0, none⟩ = some (.bool true) ∧
    Wx.ownsRow s tI 1 (.slice (some ⟨g, 0, none⟩) D.length cap) D.length (cellsD D)

set_option maxRecDepth 100000 in
set_option maxHeartbeats 2000000 in
theorem rateFirst_any (n c : Nat) (a : Option Addr) (A : Nat → Option Addr) (L C : Nat → Nat) (Z : Nat → Nat → Int) (w : World) (hn0 : n ≤ 1048576) (hL0 : ∀ r, r < n → L r ≤ 1048576) (ha0 : Tab w a n A L C Z) :
    Calls Tryz.prog 25 #[.slice a n c] w (RetID (tt (0 < gainN n L Z)) (firstL n L Z).length (nth (firstL n L Z)) w) := by
  have H1 := Lib.hid (readRates_any n c a A L C Z ((w.alloc (.cells #[.slice none 0 0] 33)).alloc (.cells #[.bool false] 4)) hn0 hL0 (ha0.below (Nat.le_refl _) (below_alloc (below_alloc (Below.refl _ w) _) _)))
  clear hL0 ha0
  refine (callsIn_wide (n := 9)).1 ?_
  refine callsIn_of_wp_marks Tryz.func25 rfl trivial ?_ rfl
  simp only [Tryz.ntmps25, List.size_toArray, List.length_cons, List.length_nil, Nat.reduceAdd, Nat.reduceSub, Array.replicate_succ, Array.replicate_zero, List.push_toArray, List.append_toArray, List.nil_append, List.cons_append]
  by_cases hr : IsRates n L Z
  · have T1 := Lib.hid (tt_of hr)
    have T2 := Lib.hid (gainN_yes hr)
    have HR := Lib.hid hr
    have HK := Lib.hid (Kept.of_rates hr)
    have hn2 := hr.1.1
    have hn5 := hr.1.2
    clear hr
    gi_wp2_with (first
      | (gi_at_call 24; refine (callsIn_wide.2 H1.out).mono ?_; rintro e w0 ⟨rfl, hb0⟩; rw [T1.out]; simp only [World.size_alloc] at hb0; have hz0 : w.heap.size + 1 + 1 ≤ w0.heap.size := by have := hb0.size; simpa using this)
      | ((with_reducible refine arrI_alloc 25 _ (Tryz.zeroRates _) ?_); intro w1 hA1 hs1 hb1; have S1 := Lib.hid hs1; clear hs1)
      | ((with_reducible refine arrI_store 25 _ _ _ _ _ _ (rateF n L Z) ?_ ?_ hA1 Tryz.sizeRates ?_); exact rfl; exact rfl; intro w2 hA2 hs2 ho2 hb2; clear hA1; have B2 := Lib.hid ((hb0.trans (hb1.mono hz0)).trans (hb2.mono hz0)); have Z2 := Lib.hid (show w.heap.size + 1 + 1 ≤ w2.heap.size by have := hb1.size; omega); clear hb0 hb1 hb2 hs2 ho2 hz0)
      | ((with_reducible refine arrI_load 25 _ _ _ _ _ _ _ ?_ hA2 Tryz.underlying46 Tryz.sizeRates ?_); exact rfl)
      | (gi_at_call 58; refine (callsIn_wide.2 (gaining_any _ _)).mono ?_; rintro e w4 ⟨rfl, hA4, hs4, hb4⟩; have A4 := Lib.hid hA4; have S4 := Lib.hid hs4; have B4 := Lib.hid (B2.out.trans (hb4.mono Z2.out)); clear hA4 hs4 hb4))
    obtain ⟨s, hs⟩ : ∃ s, s = w.heap.size := ⟨_, rfl⟩
    obtain ⟨bt, hbt⟩ : ∃ bt, bt = w2.heap.size := ⟨_, rfl⟩
    have hz2 := Z2.out
    have hs4 := S4.out
    have C0 := Lib.hid (show w4.cell? ⟨s, 0, none⟩ = some (.slice none 0 0) from (B4.out.cell (p := ⟨s, 0, none⟩) (show s < w.heap.size + 1 + 1 by omega)).trans (by
      rw [hs, World.cell?_of_block (w := w.alloc _) (Below.heap_alloc _ _ _ (by simp))]; simp))
    have C1 := Lib.hid (show w4.cell? ⟨s + 1, 0, none⟩ = some (.bool false) from (B4.out.cell (p := ⟨s + 1, 0, none⟩) (show s + 1 < w.heap.size + 1 + 1 by omega)).trans (by
      rw [hs]; have := World.cell?_alloc_new (w.alloc (.cells #[.slice none 0 0] 33)) #[.bool false] 4 0; simp))
    have F0 := Lib.hid (show w4.frozen? ⟨s, 0, none⟩ = false by
      rw [World.frozen?_of_block (w := (w.alloc _).alloc _) (B4.out.block s (by omega)), hs, World.frozen?_of_block (w := w.alloc _) (Below.heap_alloc _ _ _ (by simp))]; simp)
    have F1 := Lib.hid (show w4.frozen? ⟨s + 1, 0, none⟩ = false by
      rw [World.frozen?_of_block (w := (w.alloc _).alloc _) (B4.out.block (s + 1) (by omega)), hs]; simp)
    have BB := Lib.hid (show Below s w w4 by
      rw [hs]; exact (below_alloc (below_alloc (Below.refl _ w) _) _).trans (B4.out.mono (by omega)))
    have A5 := Lib.hid (show ArrAt w4 bt 46 25 (rateF n L Z) by rw [hbt]; exact A4.out)
    have hsw : s ≤ w4.heap.size := by omega
    have hsb : s + 2 ≤ bt := by omega
    rw [← hs, ← hbt]
    have HS := Lib.hid hs
    clear hs hbt hz2 hs4
    clear Z2 S4 B4 A4 B2 hA2
    refine wp_seq (gf := 95) (lb := #[.pointer (some ⟨bt, 0, none⟩)]) (tI := 3) rfl (enters_of Tryz.func95 (by kernel_rfl) rfl) rfl (R := fun k => k = bt) (LL := gaining n Z)
      (by rw [← gainL_gaining HR.out]; exact seq_gaining n bt _ w4 HK.out hn2 A5.out) (fun k => k < s + 2) (fun k hk => by subst hk; exact ⟨fun h => by omega, A5.out.lt⟩)
      (fun V pre Wx => V = (fun k => k < s + 2) ∧ pre = [] ∧ Below s w Wx ∧ Wx.cell? ⟨s, 0, none⟩ = some (.slice none 0 0) ∧ Wx.frozen? ⟨s, 0, none⟩ = false ∧ Wx.cell? ⟨s + 1, 0, none⟩ = some (.bool false) ∧ Wx.frozen? ⟨s + 1, 0, none⟩ = false)
      (FirstX s 3 w)
      ?cI ?cIx ⟨rfl, rfl, BB.out, C0.out, F0.out, C1.out, F1.out⟩
      (fun v a' _ => a' = { tmps := #[.slice a n c, undef, .pointer (some ⟨s, 0, none⟩), .pointer (some ⟨s + 1, 0, none⟩), .pointer (some ⟨w0.heap.size, 0, none⟩), .bool true, v, .tuple #[.agg (cellsV 25 (rateF n L Z)), .bool true], .slice a n c, .tuple #[.agg (cellsV 25 (rateF n L Z)), .bool true], .agg (cellsV 25 (rateF n L Z)), .bool true, .bool true, .bool false, .agg (cellsV 25 (rateF n L Z)), .func (.func 95) #[] #[.pointer (some ⟨bt, 0, none⟩)], v, undef], defers := [] })
      (fun v a' W l r o h _ => h) ?assign ?body ?done ?stop
    case cI =>
      constructor
      · rintro V pre Wx ⟨rfl, _, h1, h2, h3, h4, h5⟩ k hk
        have := World.block_lt_of_cell? _ _ h4
        exact Nat.lt_of_le_of_lt (Nat.le_of_lt_succ hk) this
      · rintro V pre A B ⟨rfl, rfl, h1, h2, h3, h4, h5⟩ hin
        exact ⟨rfl, rfl, below_inside h1 hin (fun k hk => show k < s + 2 by omega), hin.cell (p := ⟨s, 0, none⟩) (show s < s + 2 by omega) h2, (frozen_inside hin (p := ⟨s, 0, none⟩) (show s < s + 2 by omega)).trans h3, hin.cell (p := ⟨s + 1, 0, none⟩) (show s + 1 < s + 2 by omega) h4, (frozen_inside hin (p := ⟨s + 1, 0, none⟩) (show s + 1 < s + 2 by omega)).trans h5⟩
    case cIx =>
      intro c'
      constructor
      · rintro V pre Wx ⟨rfl, D, g, cap, rfl, rfl, h0, h1, h2, h3, h4⟩ k (hk | hk)
        · have := World.block_lt_of_cell? _ _ h3
          exact Nat.lt_of_le_of_lt (Nat.le_of_lt_succ hk) this
        · subst hk; exact (owns_cap h4).2.2
      · rintro V pre A B ⟨rfl, D, g, cap, rfl, rfl, h0, h1, h2, h3, h4⟩ hin
        exact ⟨rfl, D, g, cap, rfl, rfl, h0, below_inside h1 hin (fun k hk => .inl (by omega)), hin.cell (p := ⟨s, 0, none⟩) (.inl (show s < s + 2 by omega)) h2, hin.cell (p := ⟨s + 1, 0, none⟩) (.inl (show s + 1 < s + 2 by omega)) h3, owns_at h4 (hin.block g (.inr rfl))⟩
    case assign =>
      intro l' v Wx K hK
      gi_wp2
      exact hK _ _ (Outside.refl _ _) rfl
    case body =>
      rintro l' V pre D gb cap a' Wx ⟨rfl, rfl, h1, h2, h3, h4, h5⟩ hpre hown hgb hV rfl
      have HB := Lib.hid h1
      have HO := Lib.hid hown
      have hg : s + 2 ≤ gb := by
        have : ¬ gb < s + 2 := hgb
        omega
      clear h1 hpre hown hgb hV
      gi_wp2
      refine ⟨?_, fun k => k < s + 2 ∨ k = gb, fun k hk => hk.elim .inl (fun h => .inr (.inl h)), ⟨rfl, D, gb, cap, rfl, rfl, hg, ?_, ?_, ?_, ?_⟩⟩
      · exact (Outside.of_grown (row := some s) (grownBy_setCell' _ _ _) (fun k hk => by cases hk; show s < s + 2; omega)).trans' (Outside.of_grown (V := fun k => k < s + 2) (row := some (s + 1)) (grownBy_setCell' _ _ _) (fun k hk => by cases hk; show s + 1 < s + 2; omega)) (fun _ _ h => h)
      · exact (HB.out.setCell (p := ⟨s, 0, none⟩) (Nat.le_refl _) _).setCell (p := ⟨s + 1, 0, none⟩) (by show s ≤ s + 1; omega) _
      · rw [World.cell?_of_block (Below.heap_setCell _ _ _ _ (show s ≠ s + 1 by omega))]
        exact World.cell?_setCell_same' _ _ _ (by rw [h2]; rfl)
      · exact World.cell?_setCell_same' _ _ _ (by rw [World.cell?_of_block (Below.heap_setCell _ _ _ _ (show s + 1 ≠ s by omega)), h4]; rfl)
      · exact owns_base (owns_at HO.out ((Below.heap_setCell _ _ _ _ (show gb ≠ s + 1 by omega)).trans (Below.heap_setCell _ _ _ _ (show gb ≠ s by omega)))) (by omega)
    case done =>
      rintro D V Wx hD hV hnD ⟨rfl, h0, h1, h2, h3, h4, h5⟩ hKD
      have E0 := Lib.hid (firstL_none HR.out (by rw [h0]; rfl))
      have E1 := Lib.hid (tt_no (show ¬ 0 < gainN n L Z by rw [T2.out, h0]; simp))
      have HB := Lib.hid h1
      have hDs : s + 2 ≤ D := by
        have : ¬ D < s + 2 := hnD
        omega
      clear h0 h1
      gi_wp2
      have hKD2 : ((Wx.setCell ⟨s, 0, none⟩ (.slice none 0 0)).setCell ⟨s + 1, 0, none⟩ (.bool false)).heap[D]? = some (.deferred (some [])) :=
        ((Below.heap_setCell _ _ _ _ (show D ≠ s + 1 by omega)).trans (Below.heap_setCell _ _ _ _ (show D ≠ s by omega))).trans hKD
      refine ⟨by simp, .inl ⟨_, _, rfl, run_takeDeferred hKD2, ?_⟩⟩
      refine ⟨_, results_cells rfl _ _ ⟨s, 0, none⟩ ⟨s + 1, 0, none⟩ (.slice none 0 0) (.bool false) _ _ rfl rfl Tryz.underlying33 rfl Tryz.underlying4 rfl ?_ ?_, none, 0, ?_, ?_, ?_, ?_⟩
      · rw [World.cell?_of_block (World.putObj_heap_other (show s ≠ D by omega)), World.cell?_of_block (Below.heap_setCell _ _ _ _ (show s ≠ s + 1 by omega))]
        exact World.cell?_setCell_same' _ _ _ (by rw [h2]; rfl)
      · rw [World.cell?_of_block (World.putObj_heap_other (show s + 1 ≠ D by omega))]
        exact World.cell?_setCell_same' _ _ _ (by rw [World.cell?_of_block (Below.heap_setCell _ _ _ _ (show s + 1 ≠ s by omega)), h4]; rfl)
      · rw [E0.out, E1.out]; rfl
      · rw [E0.out]; exact Nat.le_refl _
      · rw [E0.out]; exact .inl rfl
      · rw [← HS.out]
        refine below_inside (V := fun k => k < s + 2) ((HB.out.setCell (p := ⟨s, 0, none⟩) (Nat.le_refl _) _).setCell (p := ⟨s + 1, 0, none⟩) (by show s ≤ s + 1; omega) _) (Inside.putObj (V := fun k => k < s + 2) hnD _) (fun k hk => show k < s + 2 by omega)
    case stop =>
      rintro D c' V pre Wx hD hV hnD hpre ⟨rfl, D1, g, cap, rfl, rfl, h0, h1, h2, h3, h4⟩ hKD
      have E0 := Lib.hid (show firstL n L Z = D1 by rw [firstL_yes HR.out]; obtain ⟨z, hz⟩ := hpre; rw [← hz]; rfl)
      have E1 := Lib.hid (tt_of (show 0 < gainN n L Z by rw [T2.out]; have := hpre.length_le; simp at this; omega))
      have HB := Lib.hid h1
      have HO := Lib.hid h4
      have hDs : s + 2 ≤ D := by
        have : ¬ (D < s + 2 ∨ D = g) := hnD
        omega
      clear h1 h4
      gi_wp2
      refine ⟨by simp, .inl ⟨_, _, rfl, run_takeDeferred hKD, ?_⟩⟩
      refine ⟨_, results_cells rfl _ _ ⟨s, 0, none⟩ ⟨s + 1, 0, none⟩ (.slice (some ⟨g, 0, none⟩) D1.length cap) (.bool true) _ _ rfl rfl Tryz.underlying33 rfl Tryz.underlying4 rfl ?_ ?_, some ⟨g, 0, none⟩, cap, ?_, ?_, ?_, ?_⟩
      · rw [World.cell?_of_block (World.putObj_heap_other (show s ≠ D by omega))]; exact h2
      · rw [World.cell?_of_block (World.putObj_heap_other (show s + 1 ≠ D by omega))]; exact h3
      · rw [E0.out, E1.out]
      · rw [E0.out]; exact (owns_cap HO.out).1
      · rw [E0.out]
        rw [← HS.out]
        have := ownI_of_owns (lo := s) (owns_at HO.out (World.putObj_heap_other (w := Wx) (r := D) (o := .deferred none) (fun e => hnD (.inr e.symm)))) (Nat.le_refl _)
        simpa using this
      · rw [← HS.out]
        exact below_inside (V := fun k => k < s + 2 ∨ k = g) HB.out (Inside.putObj hnD _) (fun k hk => .inl (by omega))
  · have T1 := Lib.hid (tt_no hr)
    have T2 := Lib.hid (gainN_no hr)
    have E0 := Lib.hid (firstL_no hr)
    have E1 := Lib.hid (tt_no (show ¬ 0 < gainN n L Z by rw [T2.out]; omega))
    clear hr
    gi_wp2_with (first
      | (gi_at_call 24; refine (callsIn_wide.2 H1.out).mono ?_; rintro e w0 ⟨rfl, hb0⟩; rw [T1.out]; simp only [World.size_alloc] at hb0; have hz0 : w.heap.size + 1 + 1 ≤ w0.heap.size := by have := hb0.size; simpa using this)
      | ((with_reducible refine arrI_alloc 25 _ (Tryz.zeroRates _) ?_); intro w1 hA1 hs1 hb1; have S1 := Lib.hid hs1; clear hs1)
      | ((with_reducible refine arrI_store 25 _ _ _ _ _ _ (rateF n L Z) ?_ ?_ hA1 Tryz.sizeRates ?_); exact rfl; exact rfl; intro w2 hA2 hs2 ho2 hb2; clear hA1; have B2 := Lib.hid ((hb0.trans (hb1.mono hz0)).trans (hb2.mono hz0)); have Z2 := Lib.hid (show w.heap.size + 1 + 1 ≤ w2.heap.size by have := hb1.size; omega); have C0 := (B2.out.cell (p := ⟨w.heap.size, 0, none⟩) (show w.heap.size < w.heap.size + 1 + 1 by omega)).trans (show _ = some (.slice none 0 0) by rw [World.cell?_of_block (w := w.alloc _) (Below.heap_alloc _ _ _ (by simp))]; simp); have C1 := (B2.out.cell (p := ⟨w.heap.size + 1, 0, none⟩) (show w.heap.size + 1 < w.heap.size + 1 + 1 by omega)).trans (show _ = some (.bool false) by simp); have F0 : w2.frozen? ⟨w.heap.size, 0, none⟩ = false := (by rw [World.frozen?_of_block (w := (w.alloc _).alloc _) (B2.out.block w.heap.size (by omega)), World.frozen?_of_block (w := w.alloc _) (Below.heap_alloc _ _ _ (by simp))]; simp); have F1 : w2.frozen? ⟨w.heap.size + 1, 0, none⟩ = false := (by rw [World.frozen?_of_block (w := (w.alloc _).alloc _) (B2.out.block (w.heap.size + 1) (by omega))]; simp); clear hb0 hb1 hb2 hs2 ho2 hz0))
    refine ⟨_, results_cells rfl _ _ ⟨w.heap.size, 0, none⟩ ⟨w.heap.size + 1, 0, none⟩ (.slice none 0 0) (.bool false) _ _ rfl rfl Tryz.underlying33 rfl Tryz.underlying4 rfl ?_ ?_, none, 0, ?_, ?_, ?_, ?_⟩
    · rw [World.cell?_of_block (Below.heap_setCell _ _ _ _ (show w.heap.size ≠ w.heap.size + 1 by omega))]
      exact World.cell?_setCell_same' _ _ _ (by rw [C0]; rfl)
    · exact World.cell?_setCell_same' _ _ _ (by rw [World.cell?_of_block (Below.heap_setCell _ _ _ _ (show w.heap.size + 1 ≠ w.heap.size by omega)), C1]; rfl)
    · rw [E0.out, E1.out]; rfl
    · rw [E0.out]; exact Nat.le_refl _
    · rw [E0.out]; exact .inl rfl
    · exact ((((below_alloc (below_alloc (Below.refl _ w) _) _).trans (B2.out.mono (by omega))).setCell (p := ⟨w.heap.size, 0, none⟩) (Nat.le_refl _) _).setCell (p := ⟨w.heap.size + 1, 0, none⟩) (by show w.heap.size ≤ w.heap.size + 1; omega) _)

theorem rateFirst_ib (n c : Nat) (a : Option Addr) (A : Nat → Option Addr) (L C : Nat → Nat) (Z : Nat → Nat → Int) (w : World) (hn0 : n ≤ 1048576) (hL0 : ∀ r, r < n → L r ≤ 1048576) (ha0 : Tab w a n A L C Z) :
    Calls Tryz.prog 25 #[.slice a n c] w (RetIB (tt (0 < gainN n L Z)) (firstL n L Z).length (nth (firstL n L Z)) w) := by
  refine (rateFirst_any n c a A L C Z w hn0 hL0 ha0).mono ?_
  rintro e w' ⟨b, d, he, _, hO, hb⟩
  exact ⟨b, d, he, hO, hb⟩
theorem rateGains_any (n c : Nat) (a : Option Addr) (A : Nat → Option Addr) (L C : Nat → Nat) (Z : Nat → Nat → Int) (w : World) (hn0 : n ≤ 1048576) (hL0 : ∀ r, r < n → L r ≤ 1048576) (ha0 : Tab w a n A L C Z) :
    Calls Tryz.prog 11 #[.slice a n c] w fun e w' => e = .returned (.bool (tt (0 < gainN n L Z))) ∧ Below w.heap.size w w' := by
  have H1 := Lib.hid (rateFirst_any n c a A L C Z w hn0 hL0 ha0)
  clear hL0 ha0
  go_enter Tryz.func11, Tryz.ntmps11
  go_wp2_with (go_at_call 25; refine H1.out.mono ?_; rintro e w1 ⟨a1, c1, rfl, _, _, hb⟩)
  go_ret
  exact ⟨rfl, hb⟩
end Go.Proofs.YtabdbgnkiebcdaaGreatDoor

namespace Go.Proofs.YtabdbgnkiebcdaaGreatDoor
set_option linter.unusedVariables false
open Go.RowKit

set_option maxHeartbeats 1600000 in
theorem divisor_any6 (m c : Nat) (a : Option Addr) (X : Nat → Int) (w : World) (hm : m ≤ 6) (ha : Rd w a m X) (hX : ∀ k, k < m → 1 ≤ X k ∧ X k ≤ 1000000000000000000) :
    Calls Tryz.prog 104 #[.slice a m c] w fun e w' => e = .returned (.int .i64 (gcdT X m : Nat)) ∧ ∃ q, w' = w.drewN q := by
  have HA := Lib.hid ha
  have HX := Lib.hid hX
  clear ha hX
  go_enter Tryz.func104, Tryz.ntmps104
  go_wp2
  go_loopw [3, 5, 8] (fun d _ s wi => ∃ k : Nat, k ≤ m ∧ s = .int .i64 k ∧ d = .int .i64 (gcdT X k : Nat) ∧ ∃ q, wi = w.drewN q) (fun _ _ s _ => m - (intOf s).toNat)
  case atStart => exact ⟨0, Nat.zero_le _, rfl, rfl, 0, rfl⟩
  case round =>
    obtain ⟨k, hk, rfl, rfl, q, rfl⟩ := hrel
    have hle := gcdT_le (M := 1000000000000000000) k (fun j hj => HX.out j (by omega))
    obtain ⟨D, hD⟩ : ∃ D, D = gcdT X k := ⟨_, rfl⟩
    rw [← hD] at hle ⊢
    have QD := Lib.hid hD
    clear hD
    by_cases hlt : k < m
    · obtain ⟨ba, oa, rfl, hca⟩ := HA.out k hlt
      obtain ⟨x, hx⟩ := Int.eq_ofNat_of_zero_le (show 0 ≤ X k by have := (HX.out k hlt).1; omega)
      have hx18 : x ≤ 1000000000000000000 := by have := (HX.out k hlt).2; omega
      rw [hx] at hca
      have QX := Lib.hid hx
      have QG := Lib.hid (show gcdT X (k + 1) = Nat.gcd D x by show Nat.gcd (gcdT X k) (X k).toNat = _; rw [hx, ← QD.out]; rfl)
      clear hx
      go_wp2
      go_loopw [3, 5] (fun d y wi => ∃ a b : Nat, d = .int .i64 a ∧ y = .int .i64 b ∧ Nat.gcd a b = Nat.gcd D x ∧ a ≤ 1000000000000000000 ∧ b ≤ 1000000000000000000 ∧ ∃ q, wi = w.drewN q) (fun _ y _ => (intOf y).toNat)
      case atStart => exact ⟨D, x, rfl, rfl, rfl, hle, hx18, _, rfl⟩
      case round =>
        obtain ⟨a, b, rfl, rfl, he, ha, hb, q, rfl⟩ := hrel
        have HE := Lib.hid he
        clear he
        by_cases hb0 : 0 < b
        · have hd : ((b : Int) != 0) = true := by simp; omega
          have hml := Nat.mod_lt a hb0
          have hz : ((b : Int) == 0) = false := by simp; omega
          have hz2 : ¬ (b : Int) = 0 := by omega
          have hm1 : (a : Int).tmod (b : Int) = ((a % b : Nat) : Int) := by rw [Int.tmod_eq_emod_of_nonneg (by omega), Int.natCast_emod]
          have hm2 : IntKind.i64.wrap ((a % b : Nat) : Int) = ((a % b : Nat) : Int) := IntWalk.i64_in _ (by omega)
          have HM := Lib.hid hml
          clear hml
          go_wp2
          go_quiet (fail)
          go_wp2
          clear hm1 hm2 hz hz2
          go_roundw
          case rel =>
            refine ⟨b, a % b, rfl, ?_, ?_, hb, ?_, ?_⟩
            · first | rfl | (rw [Int.natCast_emod])
            · rw [gcd_turn]; exact HE.out
            · have := HM.out; omega
            · first | exact ⟨_, rfl⟩ | exact ⟨q + nq, by rw [World.drewN_drewN]⟩
          case measure =>
            first
              | exact HM.out
              | (show ((a : Int) % (b : Int)).toNat < ((b : Nat) : Int).toNat; rw [← Int.natCast_emod]; exact HM.out)
        · obtain rfl : b = 0 := by omega
          have hd : (((0 : Nat) : Int) != 0) = false := by decide
          have HG := Lib.hid (show a = gcdT X (k + 1) by rw [QG.out, ← HE.out]; exact (Nat.gcd_zero_right a).symm)
          clear hd
          go_wp2
          go_roundw
          case rel =>
            exact ⟨k + 1, by omega, by go_num, by rw [← HG.out], _, rfl⟩
          case measure => simp [intOf]; omega
    · obtain rfl : k = m := by omega
      go_wp2
      go_ret
      exact ⟨by rw [← QD.out]; rfl, _, rfl⟩

theorem divisor_any (m c : Nat) (a : Option Addr) (X : Nat → Int) (w : World) (hm : m ≤ 5) (ha : Rd w a m X) (hX : ∀ k, k < m → 1 ≤ X k ∧ X k ≤ 1000000000000000000) :
    Calls Tryz.prog 104 #[.slice a m c] w fun e w' => e = .returned (.int .i64 (gcdT X m : Nat)) ∧ ∃ q, w' = w.drewN q := divisor_any6 m c a X w (by omega) ha hX

set_option maxHeartbeats 400000 in
theorem cloneM_any (m c : Nat) (a : Option Addr) (X : Nat → Int) (w : World) (hm1 : 1 ≤ m) (hm : m ≤ 1048576) (ha : Rd w a m X) :
    Calls Tryz.prog 105 #[.slice a m c] w (RetList 3 m X w) := by
  obtain ⟨ba, oa, rfl, hlt, hc0⟩ := ha.lt (show 0 < m by omega)
  obtain ⟨i0, hi, hz0, hz1, hz2⟩ := info_parts Tryz.infoInt
  have hnil := fun (w : World) (a : Option Addr) (n c n' c' : Nat) => Lib.run_eql_slice_nil (P := Tryz.prog) w 96 3 a n c n' c' Tryz.underlying96
  have HA := Lib.hid ha
  clear ha hc0
  go_enter Tryz.func105, Tryz.ntmps105
  go_wp2_with (at_builtin; refine wpList_append_grows _ (by rfl) (.tmp 5) (.tmp 6) 96 (by rfl) 3 i0 (.int .i64 0) 1 8 Tryz.underlying96 hi hz0 hz1 hz2 (by rfl) (by decide) _ 0 0 [] (by rfl) (fun h => by cases h) (by rfl) (fun _ _ j u h => absurd h (by simp)) ⟨ba, oa, none⟩ m c (cellsL m X) (by rfl) ((cellsL_length m X).trans (Nat.mul_one m).symm) (HA.out.news (by repeat (first | exact Below.refl _ _ | refine Below.drew ?_ | refine below_alloc ?_ _))) (cellsL_one m X) (by omega) (by unfold maxLen; omega) (by omega) ?_; intro v1 w1 hown0 hgrow1; simp only [Nat.zero_add, List.nil_append] at hown0)
  obtain ⟨h1, (⟨he, h0⟩ | ⟨g, cap, cur, rfl, hg, hr⟩)⟩ := hown0
  · omega
  · have hB : Below w.heap.size w w1 := (below_alloc (Below.refl w.heap.size w) _).grown hgrow1 (by simp) (fun k h => by cases h)
    go_ret
    exact ⟨g, cap, rfl, ⟨h1, .inr ⟨g, cap, cur, rfl, by simp at hg; omega, hr⟩⟩, hB⟩

set_option maxHeartbeats 1600000 in
theorem lowest_any6 (m c : Nat) (a : Option Addr) (X : Nat → Int) (w : World) (hm1 : 1 ≤ m) (hm : m ≤ 6) (ha : Rd w a m X) (hX : ∀ k, k < m → 1 ≤ X k ∧ X k ≤ 1000000000000000000) :
    Calls Tryz.prog 66 #[.slice a m c] w (RetI m (leastF X m) w) := by
  have HA := Lib.hid ha
  have HX := Lib.hid hX
  have hpos := gcdT_pos (X := X) hm1 (fun j hj => (hX j hj).1)
  have hle := gcdT_le (M := 1000000000000000000) m hX
  have HL := Lib.hid (show ∀ j, X j / ((gcdT X m : Nat) : Int) = leastF X m j from fun j => rfl)
  obtain ⟨D, hD⟩ : ∃ D, D = gcdT X m := ⟨_, rfl⟩
  rw [← hD] at hle hpos
  have QD := Lib.hid hD
  clear ha hX hD
  go_enter Tryz.func66, Tryz.ntmps66
  go_wp2_with (first
    | (go_at_call 104; refine (divisor_any6 m c a X _ hm HA.out HX.out).mono ?_; rintro e w1 ⟨rfl, q, rfl⟩; rw [← QD.out])
    | (go_at_call 105; refine (cloneM_any m c a X _ hm1 (by omega) (HA.out.drewN q)).mono ?_; rintro e w2 ⟨g, cap, rfl, hown, hb2⟩; have hgl := hown.lt g rfl; have hcap := (owns_cap hown).1; have HO := Lib.hid (OwnR.of_owns hown); have B2 := Lib.hid ((below_drewN (Below.refl w.heap.size w) q).trans hb2); clear hown hb2))
  have hg1 : w.heap.size ≤ g := hgl.1
  have hg2 := hgl.2
  clear hgl
  go_loopw [5, 12] (fun _ s wr => ∃ k : Nat, k ≤ m ∧ s = .int .i64 k ∧ OwnR wr g (some ⟨g, 0, none⟩) m (fun j => if j < k then leastF X m j else X j) ∧ wr.heap.size = w2.heap.size ∧ Below w.heap.size w wr) (fun _ s _ => m - (intOf s).toNat)
  case atStart => exact ⟨0, Nat.zero_le _, rfl, HO.out.congr (fun k _ => by rw [if_neg (Nat.not_lt_zero _)]), rfl, B2.out⟩
  case round =>
    obtain ⟨k, hk, rfl, hO, hsz, hB⟩ := hrel
    clear HO B2
    by_cases hlt : k < m
    · have hc := hO.at hlt
      rw [if_neg (Nat.lt_irrefl k)] at hc
      have hc1 := hc.1
      have hc2 := hc.2
      have hx1 := (HX.out k hlt).1
      have hx2 := (HX.out k hlt).2
      have hq1 : 0 ≤ X k / (D : Int) := Int.ediv_nonneg (by omega) (by omega)
      have hq2 : X k / (D : Int) ≤ X k := Int.ediv_le_self _ (by omega)
      have HO := Lib.hid hO
      have HB := Lib.hid hB
      have HS := Lib.hid hsz
      clear hO hB hsz hc
      go_wp2
      go_roundw
      case rel =>
        refine ⟨k + 1, by omega, by go_num, (HO.out.set hlt (X k / (D : Int))).congr (fun j hj => ?_), ?_, HB.out.setCell (by show w.heap.size ≤ g; omega) _⟩
        · by_cases e : j = k
          · subst e
            rw [if_pos rfl, if_pos (Nat.lt_succ_self _), ← HL.out j, QD.out]
          · rw [if_neg e]
            by_cases h : j < k
            · rw [if_pos h, if_pos (by omega)]
            · rw [if_neg h, if_neg (by omega)]
        · rw [← HS.out]; simp [World.setCell]
      case measure => simp [intOf]; omega
    · obtain rfl : k = m := by omega
      have HO := Lib.hid hO
      have HB := Lib.hid hB
      have HS := Lib.hid hsz
      clear hO hB hsz
      go_wp2
      go_ret
      exact ⟨_, _, rfl, ⟨hg1, by rw [HS.out]; exact hg2, hcap⟩, HO.out.congr (fun j hj => by rw [if_pos hj]), HB.out⟩
theorem lowest_any (m c : Nat) (a : Option Addr) (X : Nat → Int) (w : World) (hm1 : 1 ≤ m) (hm : m ≤ 5) (ha : Rd w a m X) (hX : ∀ k, k < m → 1 ≤ X k ∧ X k ≤ 1000000000000000000) :
    Calls Tryz.prog 66 #[.slice a m c] w (RetI m (leastF X m) w) := lowest_any6 m c a X w hm1 (by omega) ha hX

end Go.Proofs.YtabdbgnkiebcdaaGreatDoor

namespace Go.Proofs.YtabdbgnkiebcdaaGreatDoor
set_option linter.unusedVariables false
open Go.RowKit

theorem rate_five {n : Nat} {L : Nat → Nat} {Z : Nat → Nat → Int} (h : IsRates n L Z) (x y : Nat) (hx : x < 5) (hy : y < 5) : 0 ≤ atF (rateF n L Z) x y ∧ atF (rateF n L Z) x y ≤ 144 := by
  have e1 : (x * 5 + y) / 5 = x := by omega
  have e2 : (x * 5 + y) % 5 = y := by omega
  unfold atF
  rw [← rateF_yes h, e1, e2]
  by_cases hn : x < n ∧ y < n
  · rw [if_pos hn]
    have := ((h.2 x hn.1).2 y hn.2).1
    omega
  · rw [if_neg hn]; decide
theorem rate_none {n : Nat} {L : Nat → Nat} {Z : Nat → Nat → Int} (h : IsRates n L Z) (x y : Nat) (hx : x < 5) (hy : y < 5) (hn : n ≤ x ∨ n ≤ y) : atF (rateF n L Z) x y = 0 := by
  have e1 : (x * 5 + y) / 5 = x := by omega
  have e2 : (x * 5 + y) % 5 = y := by omega
  unfold atF
  rw [← rateF_yes h, e1, e2, if_neg (by omega)]
end Go.Proofs.YtabdbgnkiebcdaaGreatDoor

namespace Go.Proofs.YtabdbgnkiebcdaaGreatDoor
set_option linter.unusedVariables false
open Go.RowKit

set_option maxHeartbeats 800000 in
theorem has_any (n : Nat) (F : Nat → Int) (x : Int) (w : World) (h : Kept n F) :
    Calls Tryz.prog 102 #[.agg (cellsV 25 F), .int .i64 x] w fun e w' => e = .returned (.bool (tt (InR x 0 (n - 1)))) ∧ Below w.heap.size w w' := by
  have H := Lib.hid h
  clear h
  by_cases h0 : 0 ≤ x
  · have hd : decide (0 ≤ x) = true := by simpa using h0
    have hiff := tt_congr (show InR x 0 ((n : Int) - 1) ↔ x < (n : Int) from ⟨fun h => by have := h.2; omega, fun h => ⟨h0, by omega⟩⟩)
    have hdec : decide (x < (n : Int)) = tt (x < (n : Int)) := by
      by_cases h : x < (n : Int)
      · rw [tt_of h]; simpa using h
      · rw [tt_no h]; simpa using h
    have E := Lib.hid (hiff.trans hdec.symm)
    clear hiff hdec
    go_enter Tryz.func102, Tryz.ntmps102
    go_wp2_with (first
      | ((with_reducible refine arr_box 25 _ _ F ?_ ?_); exact rfl; intro w1 hA1 hs1 hb1; have S1 := Lib.hid hs1; clear hs1)
      | ((with_reducible refine arr_load_g 25 _ _ _ _ _ _ _ _ ?_ ?_ hA1 Tryz.underlying46 Tryz.sizeRates ?_); exact rfl; exact rfl)
      | (go_at_call 97; refine (size_any n F _ H.out).mono ?_; rintro e w2 ⟨rfl, hb2⟩))
    go_ret
    exact ⟨by rw [E.out]; rfl, hb1.trans (hb2.mono hb1.size)⟩
  · have hd : decide (0 ≤ x) = false := by simpa using h0
    have E := Lib.hid (tt_no (show ¬ InR x 0 ((n : Int) - 1) from fun h => h0 h.1))
    go_enter Tryz.func102, Tryz.ntmps102
    go_wp2_with (first
      | ((with_reducible refine arr_box 25 _ _ F ?_ ?_); exact rfl; intro w1 hA1 hs1 hb1; have S1 := Lib.hid hs1; clear hs1)
      | ((with_reducible refine arr_load_g 25 _ _ _ _ _ _ _ _ ?_ ?_ hA1 Tryz.underlying46 Tryz.sizeRates ?_); exact rfl; exact rfl))
    go_ret
    exact ⟨by rw [E.out]; rfl, hb1⟩
end Go.Proofs.YtabdbgnkiebcdaaGreatDoor

namespace Go.Proofs.YtabdbgnkiebcdaaGreatDoor
set_option linter.unusedVariables false
open Go.RowKit

theorem Tryz.zeroFive (w : World) : (zeroValue 44).run Tryz.prog w = .ok (.agg (cellsV 5 fun _ => 0)) w := by kernel_rfl
theorem Tryz.sizeFive : (Tryz.prog.info? 44).map (·.size) = some 5 := by kernel_rfl
theorem Tryz.sizeInt : (Tryz.prog.info? 3).map (·.size) = some 1 := by kernel_rfl
end Go.Proofs.YtabdbgnkiebcdaaGreatDoor

namespace Go.Proofs.YtabdbgnkiebcdaaGreatDoor
set_option linter.unusedVariables false
open Go.RowKit

set_option maxHeartbeats 1600000 in
theorem change_any (F H : Nat → Int) (w : World) (hF : ∀ x y, x < 5 → y < 5 → 0 ≤ atF F x y ∧ atF F x y ≤ 144) (hH : ∀ x, x < 5 → 0 ≤ H x ∧ H x ≤ 61917364224) :
    Calls Tryz.prog 103 #[.agg (cellsV 25 F), .agg (cellsV 5 H)] w fun e w' => e = .returned (.agg (cellsV 5 fun y => rmax (fun x => H x * atF F x y) 5)) ∧ Below w.heap.size w w' := by
  have HF := Lib.hid hF
  have HH := Lib.hid hH
  clear hF hH
  have t1 : True := trivial
  have t2 : True := trivial
  go_enter Tryz.func103, Tryz.ntmps103
  go_wp2_with (first
    | ((with_reducible refine arr_box 25 _ _ F ?_ ?_); exact rfl; intro w1 hA1 hs1 hb1; have S1 := Lib.hid hs1; clear hs1)
    | ((with_reducible refine arr_box 5 _ _ H ?_ ?_); exact rfl; intro w2 hA2 hs2 hb2; have S2 := Lib.hid hs2; clear hs2)
    | (have _t := t1; (with_reducible refine arr_alloc 5 _ (Tryz.zeroFive _) ?_); clear t1; intro w3 hA3 hs3 hb3; have S3 := Lib.hid hs3; clear hs3)
    | (have _t := t2; (with_reducible refine arr_alloc 5 _ (Tryz.zeroFive _) ?_); clear t2; intro w4 hA4 hs4 hb4; have S4 := Lib.hid hs4; clear hs4)
    | ((with_reducible refine arr_load 5 _ _ _ _ _ _ _ ?_ (hA2.below hA2.lt (below_chain hb3 hb4)) Tryz.underlying44 Tryz.sizeFive ?_); exact rfl))
  obtain ⟨G4, hG4⟩ : ∃ G, G = w2.heap.size := ⟨_, rfl⟩
  obtain ⟨G5, hG5⟩ : ∃ G, G = w3.heap.size := ⟨_, rfl⟩
  have e1 : w1.heap.size = w.heap.size + 1 := S1.out
  have e2 : w2.heap.size = w1.heap.size + 1 := S2.out
  have e3 : w3.heap.size = w2.heap.size + 1 := S3.out
  have hB := below_chain (below_chain (below_chain hb1 hb2) hb3) hb4
  have hA1' := (hA1.below hA1.lt (below_chain (below_chain hb2 hb3) hb4))
  have hA3' := hA3.below hA3.lt hb4
  have n1 : w.heap.size < G4 := by omega
  have n2 : G4 < G5 := by omega
  rw [← hG4] at hA3' ⊢
  rw [← hG5] at hA4 ⊢
  have R1 := Lib.hid hA1'
  have R4 := Lib.hid hA3'
  have R5 := Lib.hid (hA4.congr (G := nextF (atF F) H 0 0) (fun y _ => nextF_start _ _ y))
  have RB := Lib.hid hB
  clear hA1 hA2 hA3 hA4 hb1 hb2 hb3 hb4 hA1' hA3' hB S1 S2 S3 S4 e1 e2 e3 hG4 hG5
  go_loopw [6, 7, 8, 9, 11] (fun _ _ _ _ i wr => ∃ p : Nat, p ≤ 5 ∧ i = .int .i64 p ∧ ArrAt wr w.heap.size 46 25 F ∧ ArrAt wr G4 44 5 (fun _ => 0) ∧ ArrAt wr G5 44 5 (nextF (atF F) H p 0) ∧ Below w.heap.size w wr) (fun _ _ _ _ i _ => 5 - (intOf i).toNat)
  case atStart => exact ⟨0, by omega, rfl, R1.out, R4.out, R5.out, RB.out⟩
  case round =>
    obtain ⟨p, hp, rfl, h1, h4, h5, hb⟩ := hrel
    clear R1 R4 R5 RB
    have R1 := Lib.hid h1
    have R4 := Lib.hid h4
    have R5 := Lib.hid h5
    have RB := Lib.hid hb
    clear h4 h5 hb
    by_cases hlt : p < 5
    · have hd : decide ((p : Int) < 5) = true := by simp; omega
      go_wp2_with (first
        | ((with_reducible refine arr_index 5 _ _ _ _ H .i64 p ?_ ?_ hlt Tryz.underlying44 Tryz.underlying3 Tryz.sizeInt ?_); exact rfl; exact rfl)
        | ((with_reducible refine arr_load_mid 25 5 _ _ _ _ (p * 5) _ _ F ?_ h1 ?_ Tryz.underlying44 Tryz.sizeFive ?_); exact rfl; omega))
      clear h1
      go_loopw [8, 9, 18] (fun _ _ i wi => ∃ q : Nat, q ≤ 5 ∧ i = .int .i64 q ∧ ArrAt wi w.heap.size 46 25 F ∧ ArrAt wi G4 44 5 (fun _ => 0) ∧ ArrAt wi G5 44 5 (nextF (atF F) H p q) ∧ Below w.heap.size w wi) (fun _ _ i _ => 5 - (intOf i).toNat)
      case atStart => exact ⟨0, by omega, rfl, R1.out, R4.out, R5.out, RB.out⟩
      case round =>
        obtain ⟨q, hq, rfl, h1, h4, h5, hb⟩ := hrel
        clear R1 R4 R5 RB
        by_cases hqlt : q < 5
        · have hd2 : decide ((q : Int) < 5) = true := by simp; omega
          have hc5 := h5.cell hqlt
          have hf5 := h5.frozen q
          have hpb := prod_bound (HH.out p hlt) (HF.out p q hlt hqlt)
          have hmul : wrap64 (H p * atF F p q) = H p * atF F p q := IntWalk.wrap64_in _ ⟨by omega, by omega⟩
          have R1 := Lib.hid h1
          have R4 := Lib.hid h4
          have R5 := Lib.hid h5
          have RB := Lib.hid hb
          clear h1 h4 h5 hb
          go_wp2_with ((with_reducible refine arr_index 5 _ _ _ _ (atF F p) .i64 q ?_ ?_ hqlt Tryz.underlying44 Tryz.underlying3 Tryz.sizeInt ?_); exact rfl; exact rfl)
          go_roundw
          case rel =>
            refine ⟨q + 1, by omega, by go_num, R1.out.setOther (by show w.heap.size ≠ G5; omega) _, R4.out.setOther (by show G4 ≠ G5; omega) _, (R5.out.set q _).congr (fun y _ => nextF_step _ _ _ _ _), RB.out.setCell (by show w.heap.size ≤ G5; omega) _⟩
          case measure => simp [intOf]; omega
        · have hd2 : decide ((q : Int) < 5) = false := by simp; omega
          obtain rfl : q = 5 := by omega
          have R1 := Lib.hid h1
          have R4 := Lib.hid h4
          have R5 := Lib.hid h5
          have RB := Lib.hid hb
          clear h1 h4 h5 hb
          go_wp2
          go_roundw
          case rel => exact ⟨p + 1, by omega, by go_num, R1.out, R4.out, R5.out.congr (fun y hy => nextF_row _ _ _ _ _ hy), RB.out⟩
          case measure => simp [intOf]; omega
    · have hd : decide ((p : Int) < 5) = false := by simp; omega
      obtain rfl : p = 5 := by omega
      have h5 := R5.out
      have h4 := R4.out
      go_wp2_with (first
        | ((with_reducible refine arr_load 5 _ _ _ _ _ _ _ ?_ h5 Tryz.underlying44 Tryz.sizeFive ?_); exact rfl)
        | ((with_reducible refine arr_store 5 _ _ _ _ _ _ (nextF (atF F) H 5 0) ?_ ?_ h4 Tryz.sizeFive ?_); exact rfl; exact rfl; intro w9 hA9 hs9 ho9 hb9; clear h4))
      refine bodyPost_ret (v := .agg (cellsV 5 fun y => rmax (fun x => H x * atF F x y) 5)) ?_ rfl ⟨rfl, RB.out.trans (hb9.mono (by omega))⟩
      exact results_arr Tryz.results103 _ _ G4 44 5 _ _ _ rfl (hA9.congr fun y _ => rfl) Tryz.underlying44 Tryz.sizeFive
end Go.Proofs.YtabdbgnkiebcdaaGreatDoor

namespace Go.Proofs.YtabdbgnkiebcdaaGreatDoor
set_option linter.unusedVariables false
open Go.RowKit

set_option maxHeartbeats 1600000 in
theorem rateStep_any (n c : Nat) (a : Option Addr) (A : Nat → Option Addr) (L C : Nat → Nat) (Z : Nat → Nat → Int) (i k : Int) (w : World) (hn0 : n ≤ 1048576) (hL0 : ∀ r, r < n → L r ≤ 1048576) (ha0 : Tab w a n A L C Z) (hx1 : I64 i) (hx2 : I64 k) :
    Calls Tryz.prog 65 #[.slice a n c, .int .i64 i, .int .i64 k] w fun e w' => e = .returned (.tuple #[.int .i64 (stepAns n L Z i k), .bool (tt (TwoOk n L Z i k))]) ∧ Below w.heap.size w w' := by
  have H1 := Lib.hid (readRates_any n c a A L C Z w hn0 hL0 ha0)
  clear hL0 ha0
  by_cases hr : IsRates n L Z
  · have T1 := Lib.hid (tt_of hr)
    have HK := Lib.hid (Kept.of_rates hr)
    have HR := Lib.hid hr
    have hn5 := hr.1.2
    have hn2 := hr.1.1
    clear hr
    by_cases h1 : InR i 0 ((n : Int) - 1)
    · have T2 := Lib.hid (tt_of h1)
      by_cases h2 : InR k 0 ((n : Int) - 1)
      · have T3 := Lib.hid (tt_of h2)
        have hok : TwoOk n L Z i k := ⟨HR.out, h1, h2⟩
        have T4 := Lib.hid (tt_of hok)
        have T5 := Lib.hid (stepAns_yes hok)
        obtain ⟨x, hx⟩ := Int.eq_ofNat_of_zero_le h1.1
        obtain ⟨y, hy⟩ := Int.eq_ofNat_of_zero_le h2.1
        subst hx hy
        have hxn : x < n := by have := h1.2; omega
        have hyn : y < n := by have := h2.2; omega
        clear h1 h2 hok hx1 hx2
        have t1 : True := trivial
        have t2 : True := trivial
        go_enter Tryz.func65, Tryz.ntmps65
        go_wp2_with (first
          | (go_at_call 24; refine H1.out.mono ?_; rintro e w0 ⟨rfl, hb0⟩; rw [T1.out])
          | ((with_reducible refine arr_alloc 25 _ (Tryz.zeroRates _) ?_); intro w1 hA1 hs1 hb1; have S1 := Lib.hid hs1; clear hs1)
          | ((with_reducible refine arr_store 25 _ _ _ _ _ _ (rateF n L Z) ?_ ?_ hA1 Tryz.sizeRates ?_); exact rfl; exact rfl; intro w2 hA2 hs2 ho2 hb2; clear hA1; have B2 := Lib.hid ((hb0.trans (hb1.mono hb0.size)).trans (hb2.mono hb0.size)); clear hb0 hb1 hb2 hs2 ho2)
          | ((with_reducible refine arr_load_g 25 _ _ _ _ _ _ _ _ ?_ ?_ hA2 Tryz.underlying46 Tryz.sizeRates ?_); exact rfl; exact rfl)
          | (have _t := t1; go_at_call 102; refine (has_any n _ _ _ HK.out).mono ?_; clear t1; rintro e w3 ⟨rfl, hb3⟩; rw [T2.out]; have hA3 := hA2.below hA2.lt hb3; clear hA2; have hA2 := hA3; clear hA3; have B3 := Lib.hid (B2.out.trans (hb3.mono B2.out.size)); clear hb3)
          | (have _t := t2; go_at_call 102; refine (has_any n _ _ _ HK.out).mono ?_; clear t2; rintro e w4 ⟨rfl, hb4⟩; rw [T3.out]; have hA4 := hA2.below hA2.lt hb4; clear hA2; have hA2 := hA4; clear hA4; have B4 := Lib.hid (B3.out.trans (hb4.mono B3.out.size)); clear hb4)
          | ((with_reducible refine arr_alloc 5 _ (Tryz.zeroFive _) ?_); intro w5 hA5 hs5 hb5; have S5 := Lib.hid hs5; clear hs5; have C5 := hA5.cell (show x < 5 by omega); have F5 := hA5.frozen x)
          | ((with_reducible refine arr_load 25 _ _ _ 46 _ w0.heap.size (rateF n L Z) ?_ ?_ Tryz.underlying46 Tryz.sizeRates ?_); exact rfl; exact (hA2.below hA2.lt hb5).setOther (Nat.ne_of_lt hA2.lt) _)
          | (go_at_call 97; refine (size_any n _ _ HK.out).mono ?_; rintro e w6 ⟨rfl, hb6⟩))
        have hw04 := hA2.lt
        have hT := ((hA2.below hA2.lt hb5).setOther (Nat.ne_of_lt hA2.lt) (v := .int .i64 1) (a := ⟨w4.heap.size, x, none⟩)).below (by rw [show (w5.setCell ⟨w4.heap.size, x, none⟩ (.int .i64 1)).heap.size = w5.heap.size from by simp [World.setCell]]; rw [S5.out]; omega) hb6
        have hV := ((hA5.set x 1).below (by rw [show (w5.setCell ⟨w4.heap.size, x, none⟩ (.int .i64 1)).heap.size = w5.heap.size from by simp [World.setCell]]; rw [S5.out]; omega) hb6).congr (G := stepV (atF (rateF n L Z)) 5 x 0) (fun y _ => rfl)
        have hB := (B4.out.trans ((hb5.mono (Nat.le_refl _)).mono B4.out.size)).trans ((Below.setCell (Below.refl w4.heap.size w5) (p := ⟨w4.heap.size, x, none⟩) (Nat.le_refl _) (.int .i64 1)).mono B4.out.size |>.trans (hb6.mono (by have h1 := B4.out.size; have h2 := hb5.size; rw [show (w5.setCell ⟨w4.heap.size, x, none⟩ (.int .i64 1)).heap.size = w5.heap.size from by simp [World.setCell]]; omega)))
        have R1 := Lib.hid hT
        have R2 := Lib.hid hV
        have R3 := Lib.hid hB
        have hw4 := B4.out.size
        clear hA2 hA5 hb5 hb6 hT hV hB S1 B2 B3 B4 S5 C5 F5
        go_loopw [35] (fun s wr => ∃ q : Nat, q + 1 ≤ n ∧ s = .int .i64 q ∧ ArrAt wr w0.heap.size 46 25 (rateF n L Z) ∧ ArrAt wr w4.heap.size 44 5 (stepV (atF (rateF n L Z)) 5 x q) ∧ Below w.heap.size w wr) (fun s _ => n - (intOf s).toNat)
        case atStart => exact ⟨0, by omega, rfl, R1.out, R2.out, R3.out⟩
        case round =>
          obtain ⟨q, hq, rfl, hT, hV, hB⟩ := hrel
          clear R1 R2 R3
          by_cases hlt : q + 1 < n
          · have hbd := Lib.hid (fun z (hz : z < 5) => stepV_bound (T := atF (rateF n L Z)) (n := 5) (i := x) (fun x y hx hy => rate_five HR.out x y hx hy) q z (by omega) hz)
            have hd : decide ((q : Int) < (n : Int) - 1) = true := by simp; omega
            go_wp2_with (first
              | ((with_reducible refine arr_load 25 _ _ _ _ _ _ _ ?_ hT Tryz.underlying46 Tryz.sizeRates ?_); exact rfl)
              | ((with_reducible refine arr_load 5 _ _ _ _ _ _ _ ?_ hV Tryz.underlying44 Tryz.sizeFive ?_); exact rfl)
              | (go_at_call 103; refine (change_any _ _ _ (rate_five HR.out) hbd.out).mono ?_; rintro e w7 ⟨rfl, hb7⟩; have hV7 := hV.below hV.lt hb7; have hT7 := hT.below hT.lt hb7; have hB7 := hB.trans (hb7.mono hB.size); clear hV hT hB hb7)
              | ((with_reducible refine arr_store 5 _ _ _ _ _ _ (stepV (atF (rateF n L Z)) 5 x (q + 1)) ?_ ?_ hV7 Tryz.sizeFive ?_); exact rfl; exact rfl; intro w8 hV8 hs8 ho8 hb8; have hT8 := hT7.of_block (ho8 w0.heap.size (Nat.ne_of_lt hw04)); have hB8 := hB7.trans (hb8.mono hw4); clear hV7 hT7 hB7 hs8 ho8 hb8; have R1 := Lib.hid hT8; have R2 := Lib.hid hV8; have R3 := Lib.hid hB8; clear hT8 hV8 hB8))
            go_roundw
            case rel => exact ⟨q + 1, by omega, by go_num, R1.out, R2.out, R3.out⟩
            case measure => simp [intOf]; omega
          · have hqn : q = n - 1 := by omega
            have hd : decide ((q : Int) < (n : Int) - 1) = false := by simp; omega
            have hfive := (stepV_five (T := atF (rateF n L Z)) (U := Z) (n := n) (i := x) hn5 hxn (fun x y hx hy => atF_rate HR.out hx hy) (rate_none HR.out) q y (by omega)).1 hyn
            have hc := hV.cell (show y < 5 by omega)
            rw [hfive, hqn] at hc
            have R3 := Lib.hid hB
            clear hT hV hB hqn hfive
            go_wp2
            go_ret2
            exact ⟨by rw [T4.out, T5.out]; rfl, R3.out⟩
      · have T3 := Lib.hid (tt_no h2)
        have T4 := Lib.hid (tt_no (show ¬ TwoOk n L Z i k from fun h => h2 h.2.2))
        have T5 := Lib.hid (stepAns_no (show ¬ TwoOk n L Z i k from fun h => h2 h.2.2))
        clear h1 h2 hx1 hx2
        have t1 : True := trivial
        have t2 : True := trivial
        go_enter Tryz.func65, Tryz.ntmps65
        go_wp2_with (first
          | (go_at_call 24; refine H1.out.mono ?_; rintro e w0 ⟨rfl, hb0⟩; rw [T1.out])
          | ((with_reducible refine arr_alloc 25 _ (Tryz.zeroRates _) ?_); intro w1 hA1 hs1 hb1; have S1 := Lib.hid hs1; clear hs1)
          | ((with_reducible refine arr_store 25 _ _ _ _ _ _ (rateF n L Z) ?_ ?_ hA1 Tryz.sizeRates ?_); exact rfl; exact rfl; intro w2 hA2 hs2 ho2 hb2; clear hA1; have B2 := Lib.hid ((hb0.trans (hb1.mono hb0.size)).trans (hb2.mono hb0.size)); clear hb0 hb1 hb2 hs2 ho2)
          | ((with_reducible refine arr_load_g 25 _ _ _ _ _ _ _ _ ?_ ?_ hA2 Tryz.underlying46 Tryz.sizeRates ?_); exact rfl; exact rfl)
          | (have _t := t1; go_at_call 102; refine (has_any n _ _ _ HK.out).mono ?_; clear t1; rintro e w3 ⟨rfl, hb3⟩; rw [T2.out]; have hA3 := hA2.below hA2.lt hb3; clear hA2; have hA2 := hA3; clear hA3; have B3 := Lib.hid (B2.out.trans (hb3.mono B2.out.size)); clear hb3)
          | (have _t := t2; go_at_call 102; refine (has_any n _ _ _ HK.out).mono ?_; clear t2; rintro e w4 ⟨rfl, hb4⟩; rw [T3.out]; have hA4 := hA2.below hA2.lt hb4; clear hA2; have hA2 := hA4; clear hA4; have B4 := Lib.hid (B3.out.trans (hb4.mono B3.out.size)); clear hb4))
        go_ret2
        exact ⟨by rw [T4.out, T5.out]; rfl, B4.out⟩
    · have T2 := Lib.hid (tt_no h1)
      have T4 := Lib.hid (tt_no (show ¬ TwoOk n L Z i k from fun h => h1 h.2.1))
      have T5 := Lib.hid (stepAns_no (show ¬ TwoOk n L Z i k from fun h => h1 h.2.1))
      clear h1 hx1 hx2
      have t1 : True := trivial
      go_enter Tryz.func65, Tryz.ntmps65
      go_wp2_with (first
        | (go_at_call 24; refine H1.out.mono ?_; rintro e w0 ⟨rfl, hb0⟩; rw [T1.out])
        | ((with_reducible refine arr_alloc 25 _ (Tryz.zeroRates _) ?_); intro w1 hA1 hs1 hb1; have S1 := Lib.hid hs1; clear hs1)
        | ((with_reducible refine arr_store 25 _ _ _ _ _ _ (rateF n L Z) ?_ ?_ hA1 Tryz.sizeRates ?_); exact rfl; exact rfl; intro w2 hA2 hs2 ho2 hb2; clear hA1; have B2 := Lib.hid ((hb0.trans (hb1.mono hb0.size)).trans (hb2.mono hb0.size)); clear hb0 hb1 hb2 hs2 ho2)
        | ((with_reducible refine arr_load_g 25 _ _ _ _ _ _ _ _ ?_ ?_ hA2 Tryz.underlying46 Tryz.sizeRates ?_); exact rfl; exact rfl)
        | (have _t := t1; go_at_call 102; refine (has_any n _ _ _ HK.out).mono ?_; clear t1; rintro e w3 ⟨rfl, hb3⟩; rw [T2.out]; have hA3 := hA2.below hA2.lt hb3; clear hA2; have hA2 := hA3; clear hA3; have B3 := Lib.hid (B2.out.trans (hb3.mono B2.out.size)); clear hb3))
      go_ret2
      exact ⟨by rw [T4.out, T5.out]; rfl, B3.out⟩
  · have T1 := Lib.hid (tt_no hr)
    have T4 := Lib.hid (tt_no (show ¬ TwoOk n L Z i k from fun h => hr h.1))
    have T5 := Lib.hid (stepAns_no (show ¬ TwoOk n L Z i k from fun h => hr h.1))
    clear hr hx1 hx2
    go_enter Tryz.func65, Tryz.ntmps65
    go_wp2_with (first
      | (go_at_call 24; refine H1.out.mono ?_; rintro e w0 ⟨rfl, hb0⟩; rw [T1.out])
      | ((with_reducible refine arr_alloc 25 _ (Tryz.zeroRates _) ?_); intro w1 hA1 hs1 hb1; have S1 := Lib.hid hs1; clear hs1)
      | ((with_reducible refine arr_store 25 _ _ _ _ _ _ (rateF n L Z) ?_ ?_ hA1 Tryz.sizeRates ?_); exact rfl; exact rfl; intro w2 hA2 hs2 ho2 hb2; clear hA1; have B2 := Lib.hid ((hb0.trans (hb1.mono hb0.size)).trans (hb2.mono hb0.size)); clear hb0 hb1 hb2 hs2 ho2))
    go_ret2
    exact ⟨by rw [T4.out, T5.out]; rfl, B2.out⟩
end Go.Proofs.YtabdbgnkiebcdaaGreatDoor

namespace Go.Proofs.YtabdbgnkiebcdaaGreatDoor
set_option linter.unusedVariables false
open Go.RowKit

set_option maxHeartbeats 400000 in
theorem rateIn_any (n c : Nat) (a : Option Addr) (A : Nat → Option Addr) (L C : Nat → Nat) (Z : Nat → Nat → Int) (w : World) (hn0 : n ≤ 1048576) (hL0 : ∀ r, r < n → L r ≤ 1048576) (ha0 : Tab w a n A L C Z) :
    Calls Tryz.prog 64 #[.slice a n c] w fun e w' => e = .returned (.bool (tt (IsRates n L Z))) ∧ Below w.heap.size w w' := by
  have hn := hn0; have hL := hL0; have ha := ha0; clear hn0 hL0 ha0
  have HC := Lib.hid (readRates_any n c a A L C Z w hn hL ha)
  clear hL ha
  go_enter Tryz.func64, Tryz.ntmps64
  go_wp2_with (first
    | (go_at_call 24; refine HC.out.mono ?_; rintro e w0 ⟨rfl, hb0⟩)
    | ((with_reducible refine arr_alloc 25 _ (Tryz.zeroRates _) ?_); intro w1 hA1 hs1 hb1; have S1 := Lib.hid hs1; clear hs1)
    | ((with_reducible refine arr_store 25 _ _ _ _ _ _ (rateF n L Z) ?_ ?_ hA1 Tryz.sizeRates ?_); exact rfl; exact rfl; intro w2 hA2 hs2 ho2 hb2; clear hA1))
  go_ret
  exact ⟨rfl, (hb0.trans (hb1.mono hb0.size)).trans (hb2.mono hb0.size)⟩
end Go.Proofs.YtabdbgnkiebcdaaGreatDoor

namespace Go.Proofs.YtabdbgnkiebcdaaGreatDoor
set_option linter.unusedVariables false
open Go.RowKit

set_option maxHeartbeats 1600000 in
theorem priceFind_cap (n c : Nat) (a : Option Addr) (A : Nat → Option Addr) (L C : Nat → Nat) (Z : Nat → Nat → Int) (w : World) (hn0 : n ≤ 1048576) (hL0 : ∀ r, r < n → L r ≤ 1048576) (ha0 : Tab w a n A L C Z) :
    Calls Tryz.prog 28 #[.slice a n c] w (RetID (tt (FindOk n L Z)) (findN n L Z) (leastF (foundF Z n) n) w) := by
  have H1 := Lib.hid (rateIn_any n c a A L C Z w hn0 hL0 ha0)
  by_cases hr : IsRates n L Z
  · have H2 := Lib.hid (fun w' (hb : Below w.heap.size w w') => rateGains_any n c a A L C Z w' hn0 hL0 (ha0.below (Nat.le_refl _) hb))
    have H3 := Lib.hid (fun (k : Nat) w' (hk : k < n) (hb : Below w.heap.size w w') => rateStep_any n c a A L C Z (k : Int) 0 w' hn0 hL0 (ha0.below (Nat.le_refl _) hb) (by unfold I64; omega) (by unfold I64; omega))
    have T1 := Lib.hid (tt_of hr)
    have T2 := Lib.hid (gainN_yes hr)
    have hn2 := hr.1.1
    have hn5 := hr.1.2
    have HX := Lib.hid (fun k (hk : k < n) => foundF_range hr hk)
    have HS := Lib.hid (show ∀ k, k < n → stepAns n L Z (k : Int) 0 = foundF Z n k ∧ tt (TwoOk n L Z (k : Int) 0) = true from fun k hk => by
      have h : TwoOk n L Z (k : Int) 0 := ⟨hr, ⟨by omega, by omega⟩, ⟨by omega, by omega⟩⟩
      exact ⟨by rw [stepAns_yes h]; rfl, tt_of h⟩)
    obtain ⟨N, hN⟩ : ∃ N, N = (gaining n Z).length := ⟨_, rfl⟩
    by_cases h0 : N = 0
    · have TG := Lib.hid (tt_no (show ¬ 0 < gainN n L Z by rw [T2.out, ← hN]; omega))
      have T4 := Lib.hid (tt_of (show FindOk n L Z from ⟨hr, by omega⟩))
      have T5 := Lib.hid (findN_yes (show FindOk n L Z from ⟨hr, by omega⟩))
      have hmk := run_make_row' (P := Tryz.prog) 96 3 (.int .i64 0) 8 Tryz.underlying96 Tryz.infoInt rfl .i64 .i64 n (by omega) (by omega)
      clear hL0 ha0 hr hN h0
      go_enter Tryz.func28, Tryz.ntmps28
      go_wp2_with (first
        | (go_at_call 64; refine H1.out.mono ?_; rintro e w1 ⟨rfl, hb1⟩; rw [T1.out]; have B1 := Lib.hid hb1; clear hb1)
        | (go_at_call 11; refine (H2.out _ B1.out).mono ?_; rintro e w2 ⟨rfl, hb2⟩; rw [TG.out]; have B2 := Lib.hid (below_chain B1.out hb2); clear hb2))
      clear hmk
      obtain ⟨g, hg⟩ : ∃ g, g = w2.heap.size := ⟨_, rfl⟩
      have hgw : w.heap.size ≤ g := by have := B2.out.size; omega
      have O0 := Lib.hid (OwnR.of_row (World.rowIs_made w2 (.int .i64 0) n 3))
      have BA := Lib.hid (show Below w.heap.size w (w2.alloc (.cells (madeCells #[.int .i64 0] n) 3)) from B2.out.alloc B2.out.size _)
      rw [← hg] at O0 ⊢
      clear hg
      go_loopw [5, 18] (fun _ s wr => ∃ k : Nat, k ≤ n ∧ s = .int .i64 k ∧ OwnR wr g (some ⟨g, 0, none⟩) n (fun j => if j < k then foundF Z n j else 0) ∧ g < wr.heap.size ∧ Below w.heap.size w wr) (fun _ s _ => n - (intOf s).toNat)
      case atStart => exact ⟨0, Nat.zero_le _, rfl, O0.out.congr (fun j _ => by rw [if_neg (Nat.not_lt_zero _)]), by have := World.block_lt_of_cell? _ _ (O0.out.at (show 0 < n by omega)).1; exact this, BA.out⟩
      case round =>
        obtain ⟨k, hk, rfl, hO, hgl, hb⟩ := hrel
        have HO := Lib.hid hO
        have HB := Lib.hid hb
        clear hO hb O0 BA
        by_cases hlt : k < n
        · have E1 := Lib.hid (HS.out k hlt).1
          have E2 := Lib.hid (HS.out k hlt).2
          go_wp2_with (go_at_call 65; refine (H3.out k _ hlt HB.out).mono ?_; rintro e w3 ⟨rfl, hb3⟩; rw [E1.out, E2.out]; have O3 := Lib.hid (HO.out.of_block (hb3.block g hgl)); have hc3 := (O3.out.at hlt).1; have hf3 := (O3.out.at hlt).2; have B3 := Lib.hid (HB.out.trans (hb3.mono HB.out.size)); have Z3 := Lib.hid hb3.size; clear hb3)
          go_roundw
          case rel =>
            refine ⟨k + 1, by omega, by go_num, (O3.out.set hlt _).congr (fun j _ => ?_), by have := Z3.out; simp; omega, B3.out.setCell (p := ⟨g, k, none⟩) hgw _⟩
            by_cases e : j = k
            · subst e; rw [if_pos rfl, if_pos (by omega)]
            · rw [if_neg e]
              by_cases h' : j < k
              · rw [if_pos h', if_pos (by omega)]
              · rw [if_neg h', if_neg (by omega)]
          case measure => simp [intOf]; omega
        · obtain rfl : k = n := by omega
          have HR := Lib.hid ((HO.out.congr (Y := foundF Z k) (fun j hj => by rw [if_pos hj])).rd)
          go_wp2_with (go_at_call 66; refine (lowest_any k _ _ (foundF Z k) _ (by omega) hn5 HR.out HX.out).mono ?_; rintro e w4 ⟨g4, cap4, rfl, hg4, hO4, hb4⟩; have O4 := Lib.hid hO4; have B4 := Lib.hid (HB.out.trans (hb4.mono HB.out.size)); have Z4 := Lib.hid (show w.heap.size ≤ g4 by have := HB.out.size; omega); clear hO4 hb4)
          go_ret2
          refine ⟨_, _, by rw [T4.out, T5.out]; rfl, by rw [T5.out]; exact hg4.2.2, ?_, B4.out⟩
          rw [T5.out]
          exact .inr ⟨g4, Z4.out, hg4.2.1, O4.out⟩
    · have TG := Lib.hid (tt_of (show 0 < gainN n L Z by rw [T2.out, ← hN]; omega))
      have T4 := Lib.hid (tt_no (show ¬ FindOk n L Z from fun h => h0 (by rw [hN]; exact h.2)))
      have T5 := Lib.hid (findN_no (show ¬ FindOk n L Z from fun h => h0 (by rw [hN]; exact h.2)))
      clear hL0 ha0 hr hN h0
      go_enter Tryz.func28, Tryz.ntmps28
      go_wp2_with (first
        | (go_at_call 64; refine H1.out.mono ?_; rintro e w1 ⟨rfl, hb1⟩; rw [T1.out]; have B1 := Lib.hid hb1; clear hb1)
        | (go_at_call 11; refine (H2.out _ B1.out).mono ?_; rintro e w2 ⟨rfl, hb2⟩; rw [TG.out]; have B2 := Lib.hid (below_chain B1.out hb2); clear hb2))
      go_ret2
      exact ⟨_, _, by rw [T4.out, T5.out]; rfl, by rw [T5.out]; exact Nat.zero_le _, .inl T5.out, B2.out⟩
  · have T1 := Lib.hid (tt_no hr)
    have T4 := Lib.hid (tt_no (show ¬ FindOk n L Z from fun h => hr h.1))
    have T5 := Lib.hid (findN_no (show ¬ FindOk n L Z from fun h => hr h.1))
    clear hL0 ha0 hr
    go_enter Tryz.func28, Tryz.ntmps28
    go_wp2_with (go_at_call 64; refine H1.out.mono ?_; rintro e w1 ⟨rfl, hb1⟩; rw [T1.out]; have B1 := Lib.hid hb1; clear hb1)
    go_ret2
    exact ⟨_, _, by rw [T4.out, T5.out]; rfl, by rw [T5.out]; exact Nat.zero_le _, .inl T5.out, B1.out⟩
theorem priceFind_any (n c : Nat) (a : Option Addr) (A : Nat → Option Addr) (L C : Nat → Nat) (Z : Nat → Nat → Int) (w : World) (hn0 : n ≤ 1048576) (hL0 : ∀ r, r < n → L r ≤ 1048576) (ha0 : Tab w a n A L C Z) :
    Calls Tryz.prog 28 #[.slice a n c] w (RetIB (tt (FindOk n L Z)) (findN n L Z) (leastF (foundF Z n) n) w) := by
  refine (priceFind_cap n c a A L C Z w hn0 hL0 ha0).mono ?_
  rintro e w' ⟨b, d, he, _, hO, hb⟩
  exact ⟨b, d, he, hO, hb⟩
end Go.Proofs.YtabdbgnkiebcdaaGreatDoor

namespace Go.Proofs.YtabdbgnkiebcdaaGreatDoor
set_option linter.unusedVariables false
set_option linter.unusedSimpArgs false
open Go.RowKit

set_option maxRecDepth 100000 in
set_option maxHeartbeats 3200000 in
theorem proofRate_any (n c : Nat) (a : Option Addr) (A : Nat → Option Addr) (L C : Nat → Nat) (Z : Nat → Nat → Int) (w : World) (hT : PowAt w) (hn0 : n ≤ 1048576) (hL0 : ∀ r, r < n → L r ≤ 1048576) (ha0 : Tab w a n A L C Z) :
    Calls Tryz.prog 8 #[.slice a n c] w fun e w' => e = .returned (.tuple #[.string (strU (prT n L Z)), .bool (tt (IsRates n L Z))]) ∧ Below w.heap.size w w' := by
  have H1 := Lib.hid (readRates_any n c a A L C Z w hn0 hL0 ha0)
  have HA := Lib.hid ha0
  have HT := Lib.hid hT
  have HL := Lib.hid hL0
  clear ha0 hT hL0
  have t1 : True := trivial
  by_cases hr : IsRates n L Z
  · have T1 := Lib.hid (tt_of hr)
    have hn5 := hr.1.2
    by_cases hg : 0 < gainN n L Z
    · have T2 := Lib.hid (tt_of hg)
      have E := Lib.hid (prT_gain hr hg)
      have FW := Lib.hid (gain_few hn5 (first_few hr hg))
      obtain ⟨F, hF⟩ : ∃ F, F = rateF n L Z := ⟨_, rfl⟩
      rw [← hF] at H1
      clear hF hr hg
      go_enter Tryz.func8, Tryz.ntmps8
      go_wp2_with (first
        | (go_at_call 24; refine H1.out.mono ?_; rintro e w0 ⟨rfl, hb0⟩; rw [T1.out]; have B0 := Lib.hid hb0; clear hb0)
        | (have _t := t1; (with_reducible refine arr_alloc 25 _ (Tryz.zeroRates _) ?_); clear t1; intro w1 hA1 hs1 hb1; have S1 := Lib.hid hs1; have B1 := Lib.hid (below_chain B0.out hb1); clear hs1 hb1)
        | ((with_reducible refine arr_store 25 _ _ _ _ _ _ F ?_ ?_ hA1 Tryz.sizeRates ?_); exact rfl; exact rfl; intro w3 hA3 hs3 ho3 hb3; have A3 := Lib.hid hA3; have B3 := Lib.hid (B1.out.trans (hb3.mono B0.out.size)); clear hA1 hA3 hs3 ho3 hb3)
        | (go_at_call 25; refine (rateFirst_any n c a A L C Z _ hn0 HL.out (HA.out.below (Nat.le_refl _) B3.out)).mono ?_; rintro e w4 ⟨a4, c4, rfl, hcap, hO, hb4⟩; rw [T2.out]; have A4 := Lib.hid (A3.out.below A3.out.lt hb4); have R4 := Lib.hid hO.rd; have B4 := Lib.hid (below_chain B3.out hb4); clear hb4 hcap hO)
        | ((with_reducible refine arr_load 25 _ _ _ _ _ _ F ?_ A4.out Tryz.underlying46 Tryz.sizeRates ?_); exact rfl)
        | (go_at_call 26; refine (makesGain F _ _ a4 _ c4 (Below.refl _ _)).mono ?_; rintro e w5 ⟨rfl, hb5⟩; have R5 := Lib.hid (R4.out.below (Nat.le_refl _) hb5); have B5 := Lib.hid (below_chain B4.out hb5); clear hb5)
        | (go_at_call 27; refine (proofText_any gainsB _ c4 a4 (nth (firstL n L Z)) _ _ (by decide) (by have := FW.out.2.1; omega) (nth_few FW.out.2.2) R5.out (HT.out.below (Nat.le_refl _) B5.out) rfl).mono ?_; rintro e w6 ⟨rfl, hb6⟩; have B6 := Lib.hid (below_chain B5.out hb6); clear hb6))
      go_ret2
      rw [T1.out, E.out, ← numsL_nth (firstL n L Z)]
      exact ⟨by rw [numsL_nth]; rfl, B6.out⟩
    · have T2 := Lib.hid (tt_no hg)
      have E := Lib.hid (prT_hold hr hg)
      have hfo : FindOk n L Z := ⟨hr, by have h := hg; rw [gainN_yes hr] at h; omega⟩
      have T3 := Lib.hid (tt_of hfo)
      have T4 := Lib.hid (findN_yes hfo)
      have FW := Lib.hid (show ∀ k, k < n → FewDig (leastF (foundF Z n) n k) from fun k hk => by
        have := (found_holds hfo).1.1.2.2 k hk
        exact ⟨by omega, by omega⟩)
      obtain ⟨F, hF⟩ : ∃ F, F = rateF n L Z := ⟨_, rfl⟩
      rw [← hF] at H1
      clear hF hr hg hfo
      go_enter Tryz.func8, Tryz.ntmps8
      go_wp2_with (first
        | (go_at_call 24; refine H1.out.mono ?_; rintro e w0 ⟨rfl, hb0⟩; rw [T1.out]; have B0 := Lib.hid hb0; clear hb0)
        | (have _t := t1; (with_reducible refine arr_alloc 25 _ (Tryz.zeroRates _) ?_); clear t1; intro w1 hA1 hs1 hb1; have S1 := Lib.hid hs1; have B1 := Lib.hid (below_chain B0.out hb1); clear hs1 hb1)
        | ((with_reducible refine arr_store 25 _ _ _ _ _ _ F ?_ ?_ hA1 Tryz.sizeRates ?_); exact rfl; exact rfl; intro w3 hA3 hs3 ho3 hb3; have A3 := Lib.hid hA3; have B3 := Lib.hid (B1.out.trans (hb3.mono B0.out.size)); clear hA1 hA3 hs3 ho3 hb3)
        | (go_at_call 25; refine (rateFirst_any n c a A L C Z _ hn0 HL.out (HA.out.below (Nat.le_refl _) B3.out)).mono ?_; rintro e w4 ⟨a4, c4, rfl, hcap, hO, hb4⟩; rw [T2.out]; have A4 := Lib.hid (A3.out.below A3.out.lt hb4); have B4 := Lib.hid (below_chain B3.out hb4); clear hb4 hcap hO)
        | (go_at_call 28; refine (priceFind_any n c a A L C Z _ hn0 HL.out (HA.out.below (Nat.le_refl _) B4.out)).mono ?_; rintro e w7 ⟨a7, c7, rfl, hO, hb7⟩; rw [T4.out] at hO; rw [T3.out, T4.out]; have A7 := Lib.hid (A4.out.below A4.out.lt hb7); have R7 := Lib.hid hO.rd; have B7 := Lib.hid (below_chain B4.out hb7); clear hb7 hO)
        | ((with_reducible refine arr_load 25 _ _ _ _ _ _ F ?_ A7.out Tryz.underlying46 Tryz.sizeRates ?_); exact rfl)
        | (go_at_call 29; refine (makesHold F _ _ a7 _ c7 (Below.refl _ _)).mono ?_; rintro e w5 ⟨rfl, hb5⟩; have R5 := Lib.hid (R7.out.below (Nat.le_refl _) hb5); have B5 := Lib.hid (below_chain B7.out hb5); clear hb5)
        | (go_at_call 27; refine (proofText_any holdsB n c7 a7 (leastF (foundF Z n) n) _ _ (by decide) (by omega) FW.out R5.out (HT.out.below (Nat.le_refl _) B5.out) rfl).mono ?_; rintro e w6 ⟨rfl, hb6⟩; have B6 := Lib.hid (below_chain B5.out hb6); clear hb6))
      go_ret2
      rw [T1.out, E.out]
      exact ⟨rfl, B6.out⟩
  · have T1 := Lib.hid (tt_no hr)
    have E := Lib.hid (prT_no hr)
    obtain ⟨F, hF⟩ : ∃ F, F = rateF n L Z := ⟨_, rfl⟩
    rw [← hF] at H1
    clear hF hr
    go_enter Tryz.func8, Tryz.ntmps8
    go_wp2_with (first
      | (go_at_call 24; refine H1.out.mono ?_; rintro e w0 ⟨rfl, hb0⟩; rw [T1.out]; have B0 := Lib.hid hb0; clear hb0)
      | (have _t := t1; (with_reducible refine arr_alloc 25 _ (Tryz.zeroRates _) ?_); clear t1; intro w1 hA1 hs1 hb1; have S1 := Lib.hid hs1; have B1 := Lib.hid (below_chain B0.out hb1); clear hs1 hb1)
      | ((with_reducible refine arr_store 25 _ _ _ _ _ _ F ?_ ?_ hA1 Tryz.sizeRates ?_); exact rfl; exact rfl; intro w3 hA3 hs3 ho3 hb3; have B3 := Lib.hid (B1.out.trans (hb3.mono B0.out.size)); clear hA1 hA3 hs3 ho3 hb3))
    go_ret2
    rw [T1.out, E.out]
    exact ⟨rfl, B3.out⟩

set_option maxRecDepth 100000 in
set_option maxHeartbeats 3200000 in
theorem proofRateIs_any (n c : Nat) (a : Option Addr) (A : Nat → Option Addr) (L C : Nat → Nat) (Z : Nat → Nat → Int) (t : ByteArray) (w : World) (hT : PowAt w) (hE : NumErrAt w) (hn0 : n ≤ 1048576) (hL0 : ∀ r, r < n → L r ≤ 1048576) (ha0 : Tab w a n A L C Z) (ht : t.size ≤ 1048576) :
    Calls Tryz.prog 10 #[.slice a n c, .string t] w fun e w' => e = .returned (.tuple #[.int .i64 (prI n L Z t), .bool (tt (PrAny n L Z t))]) ∧ Below w.heap.size w w' := by
  have H1 := Lib.hid (readRates_any n c a A L C Z w hn0 hL0 ha0)
  clear ha0 hL0
  have t1 : True := trivial
  by_cases hr : IsRates n L Z
  · have T1 := Lib.hid (tt_of hr)
    have hn5 := hr.1.2
    have PG := Lib.hid (fun (w1 : World) (hb : Below w.heap.size w w1) => isProof_any 26 59 (.agg (cellsV 25 (rateF n L Z))) gainsB (Gains n Z) t w1 rfl (enters_of Tryz.func26 (by kernel_rfl) rfl) (enters_of Tryz.func59 (by kernel_rfl) rfl) (makesGain _ w1) (showsGain n L Z w1 hr) gainsB_ok (by decide) (fun D h => gain_few hn5 h) ht (hE.below (Nat.le_refl _) hb) (hT.below (Nat.le_refl _) hb))
    have PH := Lib.hid (fun (w1 : World) (hb : Below w.heap.size w w1) => isProof_any 29 67 (.agg (cellsV 25 (rateF n L Z))) holdsB (HoldQ n L Z) t w1 rfl (enters_of Tryz.func29 (by kernel_rfl) rfl) (enters_of Tryz.func67 (by kernel_rfl) rfl) (makesHold _ w1) (showsHold n L Z w1 hr) holdsB_ok (by decide) (fun D h => hold_few h) ht (hE.below (Nat.le_refl _) hb) (hT.below (Nat.le_refl _) hb))
    obtain ⟨F, hF⟩ : ∃ F, F = rateF n L Z := ⟨_, rfl⟩
    rw [← hF] at H1 PG PH
    by_cases hg : ProofP gainsB (Gains n Z) t
    · have T2 := Lib.hid (tt_of hg)
      have E1 := Lib.hid (prI_yes (show PrG n L Z t from ⟨hr, hg⟩))
      have E2 := Lib.hid (tt_of (show PrAny n L Z t from ⟨hr, .inl hg⟩))
      clear hF hr hg hT hE PH
      go_enter Tryz.func10, Tryz.ntmps10
      go_wp2_with (first
        | (go_at_call 24; refine H1.out.mono ?_; rintro e w0 ⟨rfl, hb0⟩; rw [T1.out]; have B0 := Lib.hid hb0; clear hb0)
        | (have _t := t1; (with_reducible refine arr_alloc 25 _ (Tryz.zeroRates _) ?_); clear t1; intro w1 hA1 hs1 hb1; have S1 := Lib.hid hs1; have B1 := Lib.hid (below_chain B0.out hb1); clear hs1 hb1)
        | ((with_reducible refine arr_store 25 _ _ _ _ _ _ F ?_ ?_ hA1 Tryz.sizeRates ?_); exact rfl; exact rfl; intro w3 hA3 hs3 ho3 hb3; have A3 := Lib.hid hA3; have B3 := Lib.hid (B1.out.trans (hb3.mono B0.out.size)); clear hA1 hA3 hs3 ho3 hb3)
        | ((with_reducible refine arr_load 25 _ _ _ _ _ _ F ?_ A3.out Tryz.underlying46 Tryz.sizeRates ?_); exact rfl)
        | (go_at_call 34; refine (PG.out _ B3.out).mono ?_; rintro e w4 ⟨rfl, hb4⟩; rw [T2.out]; have B4 := Lib.hid (below_chain B3.out hb4); clear hb4))
      go_ret2
      rw [E1.out, E2.out]
      exact ⟨rfl, B4.out⟩
    · have T2 := Lib.hid (tt_no hg)
      have E1 := Lib.hid (prI_no (show ¬ PrG n L Z t from fun h => hg h.2))
      have E2 := Lib.hid (show tt (ProofP holdsB (HoldQ n L Z) t) = tt (PrAny n L Z t) from tt_congr ⟨fun h => ⟨hr, .inr h⟩, fun h => h.2.elim (fun h' => absurd h' hg) id⟩)
      clear hF hr hg hT hE
      go_enter Tryz.func10, Tryz.ntmps10
      have t2 : True := trivial
      go_wp2_with (first
        | (go_at_call 24; refine H1.out.mono ?_; rintro e w0 ⟨rfl, hb0⟩; rw [T1.out]; have B0 := Lib.hid hb0; clear hb0)
        | (have _t := t1; (with_reducible refine arr_alloc 25 _ (Tryz.zeroRates _) ?_); clear t1; intro w1 hA1 hs1 hb1; have S1 := Lib.hid hs1; have B1 := Lib.hid (below_chain B0.out hb1); clear hs1 hb1)
        | ((with_reducible refine arr_store 25 _ _ _ _ _ _ F ?_ ?_ hA1 Tryz.sizeRates ?_); exact rfl; exact rfl; intro w3 hA3 hs3 ho3 hb3; have A3 := Lib.hid hA3; have B3 := Lib.hid (B1.out.trans (hb3.mono B0.out.size)); clear hA1 hA3 hs3 ho3 hb3)
        | (have _t := t2; (with_reducible refine arr_load 25 _ _ _ _ _ _ F ?_ A3.out Tryz.underlying46 Tryz.sizeRates ?_); exact rfl)
        | (have _t := t2; go_at_call 34; refine (PG.out _ B3.out).mono ?_; clear t2; rintro e w4 ⟨rfl, hb4⟩; rw [T2.out]; have A4 := Lib.hid (A3.out.below A3.out.lt hb4); have B4 := Lib.hid (below_chain B3.out hb4); clear hb4)
        | ((with_reducible refine arr_load 25 _ _ _ _ _ _ F ?_ A4.out Tryz.underlying46 Tryz.sizeRates ?_); exact rfl)
        | (go_at_call 34; refine (PH.out _ B4.out).mono ?_; rintro e w5 ⟨rfl, hb5⟩; have B5 := Lib.hid (below_chain B4.out hb5); clear hb5))
      go_ret2
      rw [E1.out, ← E2.out]
      exact ⟨rfl, B5.out⟩
  · have T1 := Lib.hid (tt_no hr)
    have E1 := Lib.hid (prI_no (show ¬ PrG n L Z t from fun h => hr h.1))
    have E2 := Lib.hid (tt_no (show ¬ PrAny n L Z t from fun h => hr h.1))
    obtain ⟨F, hF⟩ : ∃ F, F = rateF n L Z := ⟨_, rfl⟩
    rw [← hF] at H1
    clear hF hr hT hE
    go_enter Tryz.func10, Tryz.ntmps10
    go_wp2_with (first
      | (go_at_call 24; refine H1.out.mono ?_; rintro e w0 ⟨rfl, hb0⟩; rw [T1.out]; have B0 := Lib.hid hb0; clear hb0)
      | (have _t := t1; (with_reducible refine arr_alloc 25 _ (Tryz.zeroRates _) ?_); clear t1; intro w1 hA1 hs1 hb1; have S1 := Lib.hid hs1; have B1 := Lib.hid (below_chain B0.out hb1); clear hs1 hb1)
      | ((with_reducible refine arr_store 25 _ _ _ _ _ _ F ?_ ?_ hA1 Tryz.sizeRates ?_); exact rfl; exact rfl; intro w3 hA3 hs3 ho3 hb3; have B3 := Lib.hid (B1.out.trans (hb3.mono B0.out.size)); clear hA1 hA3 hs3 ho3 hb3))
    go_ret2
    rw [E1.out, E2.out]
    exact ⟨rfl, B3.out⟩
end Go.Proofs.YtabdbgnkiebcdaaGreatDoor

namespace Go.Proofs.YtabdbgnkiebcdaaGreatDoor
set_option linter.unusedVariables false
open Go.RowKit

set_option maxHeartbeats 6400000 in
set_option maxRecDepth 100000 in
theorem l91Wishes_any (r n c p q : Nat) (a : Option Addr) (B : Nat → Nat) (w : World) (hR : RdrAt w r a n c p) (hb : RdB w a n B) (hab : 0 < n → ∀ b o, a = some ⟨b, o, none⟩ → b < w.heap.size ∧ b ≠ r) (hn : n ≤ 2000) (hp : p ≤ 1000) (hq2 : 2 ≤ q) (hq5 : q ≤ 5) :
    Calls Tryz.prog 113 #[.pointer (some ⟨r, 0, none⟩), .int .i64 q] w (DrewTab r a n c p w) := by
  obtain ⟨i0, hi, hz0, hz1, hz2⟩ := info_parts Tryz.infoInt
  obtain ⟨i1, hj, hy0, hy1, hy2⟩ := info_parts Tryz.infoInts
  have hrl := hR.lt
  have HR0 := Lib.hid hR
  have HB := Lib.hid hb
  have HAL := Lib.hid hab
  have HAB := Lib.hid (show 0 < n → ∀ b o, a = some ⟨b, o, none⟩ → b ≠ r from fun h0 b o e => (hab h0 b o e).2)
  clear hR hb hab
  go_enter Tryz.func113, Tryz.ntmps113
  go_wp2_with fail
  rw [show ((q : Int) - 1) = ((q - 1 : Nat) : Int) by omega]
  refine (pick_any r n c p (q - 1) a B _ HR0.out HB.out HAB.out hn (by omega) (by omega) (by omega)).mono ?_
  rintro e w1 ⟨x, rfl, hx, hR1, hK1⟩
  have HR1 := Lib.hid (hR1.alloc (.cells #[] 33))
  have hs1 : w1.heap.size = w.heap.size := hK1.size
  have HU1 := Lib.hid ((ButR.keeps (B := w.heap.size) hK1).alloc (by omega) (.cells #[] 33))
  have hrl1 : r < w1.heap.size := by omega
  have S1 := Lib.hid hs1
  clear hR1 hK1 hs1
  obtain ⟨N, hN⟩ : ∃ N, N = 2 + x := ⟨_, rfl⟩
  have hN2 : 2 ≤ N := by omega
  have hN5 : N ≤ 5 := by omega
  have hNx : (2 : Int) + (x : Int) = (N : Int) := by omega
  clear hN
  go_wp2
  clear hNx
  have M0 := Lib.hid (Making.start 33 w1.heap.size (w1.alloc (.cells #[] 33)) (.slice (some ⟨w1.heap.size, 0, none⟩) 0 0) (fun _ => 0) (fun _ => 0) (fun _ => N) (fun _ _ => 0) (World.ownsRow_made w1 #[] 0 (Nat.le_refl _) (Nat.zero_le _) (by simp)))
  go_loopw [6, 7] (fun out s wr => ∃ i : Nat, i ≤ N ∧ s = .int .i64 i ∧ ∃ v G Cp XX pi, v = out ∧ Making 33 w1.heap.size wr v i G Cp (fun _ => N) XX ∧ (∀ s, s < i → N ≤ Cp s) ∧ RdrAt wr r a n c pi ∧ pi ≤ p + 1 + 10 * i ∧ w1.heap.size ≤ wr.heap.size ∧ ButR r w.heap.size w wr) (fun _ s _ => N - (intOf s).toNat)
  case atStart => exact ⟨0, Nat.zero_le _, rfl, _, _, _, _, p + 1, rfl, M0.out, fun s hs => absurd hs (Nat.not_lt_zero _), HR1.out, by omega, by simp, HU1.out⟩
  case round =>
    obtain ⟨i, hik, rfl, ov, G, Cp, XX, pi, rfl, hM, hCp, hRi, hpi, hsi, hUi⟩ := hrel
    clear M0 HR1 HU1
    have HM := Lib.hid hM
    have HCp := Lib.hid hCp
    have HRi := Lib.hid hRi
    have HUi := Lib.hid hUi
    clear hM hCp hRi hUi
    by_cases hil : i < N
    · go_wp2
      obtain ⟨wo, rfl⟩ : ∃ wo : World, wo = wr := ⟨_, rfl⟩
      have hwo : w.heap.size ≤ wo.heap.size := by have := S1.out; omega
      have hrwo : r < wo.heap.size := by omega
      have R0 := Lib.hid (show (wo.alloc (.cells #[] 3)).ownsRow wo.heap.size 3 1 (.slice (some ⟨wo.heap.size, 0, none⟩) 0 0) 0 (cellsL 0 (fun _ => 0)) from World.ownsRow_made wo #[] 0 (Nat.le_refl _) (Nat.zero_le _) (by simp))
      have HRr := Lib.hid (HRi.out.alloc (.cells #[] 3))
      have U0 := Lib.hid ((ButR.refl r wo.heap.size wo).alloc (Nat.le_refl _) (.cells #[] 3))
      go_loopw [8, 9, 10] (fun row s _ wi => ∃ k : Nat, k ≤ N ∧ s = .int .i64 k ∧ ∃ g cap Y pk, row = .slice (some ⟨g, 0, none⟩) k cap ∧ wi.ownsRow wo.heap.size 3 1 (.slice (some ⟨g, 0, none⟩) k cap) k (cellsL k Y) ∧ RdrAt wi r a n c pk ∧ pk ≤ pi + k ∧ ButR r wo.heap.size wo wi) (fun _ s _ _ => N - (intOf s).toNat)
      case atStart => exact ⟨0, Nat.zero_le _, rfl, wo.heap.size, 0, fun _ => 0, pi, rfl, R0.out, HRr.out, by omega, U0.out⟩
      case round =>
        obtain ⟨k, hk, rfl, g, cap, Y, pk, rfl, hown, hR, hpk, hU⟩ := hrel
        clear R0 HRr U0
        have HO := Lib.hid hown
        have HR := Lib.hid hR
        have HU := Lib.hid hU
        have hsz := hU.size
        obtain ⟨hkc, hgb, hglt⟩ := owns_cap hown
        clear hown hR hU
        by_cases hlt : k < N
        · go_wp2_with fail
          rw [show ((k : Int) + 1) = ((k + 1 : Nat) : Int) by omega]
          refine (pick_any r n c pk (k + 1) a B _ HR.out (HB.out.but HAL.out (HUi.out.trans (HU.out.mono hwo))) HAB.out hn (by omega) (by omega) (by omega)).mono ?_
          rintro e w5 ⟨x, rfl, hx, hR5, hK5⟩
          have HR5 := Lib.hid hR5
          have hs5 : w5.heap.size = wr.heap.size := hK5.size
          have HU5 := Lib.hid (HU.out.trans (ButR.keeps hK5))
          have O5 := Lib.hid (owns_but HO.out hrwo hK5)
          have RX := Lib.hid (show Rd w5 (some ⟨g, 0, none⟩) x Y from fun j hj => owns_rd O5.out j (by omega))
          obtain ⟨o', hif, ho'⟩ : ∃ o' : Nat, (if cap = x then some (⟨g, 0, none⟩ : Addr) else some ⟨g, x, none⟩) = some ⟨g, o', none⟩ ∧ (cap = x ∨ o' = x) := by
            by_cases e : cap = x
            · exact ⟨0, by rw [if_pos e], .inl e⟩
            · exact ⟨x, by rw [if_neg e], .inr rfl⟩
          have RY := Lib.hid (show Rd w5 (some ⟨g, o', none⟩) (k - x) (fun j => Y (x + j)) from fun j hj => by
            obtain ⟨b', q', he, hc⟩ := owns_rd O5.out (x + j) (by omega)
            simp only [Option.some.injEq, Addr.mk.injEq, and_true] at he
            obtain ⟨rfl, rfl⟩ := he
            rw [Nat.zero_add] at hc
            have e : o' = x := by omega
            subst e
            exact ⟨g, o', rfl, hc⟩)
          clear ho'
          have hx1 : (x : Int) ≤ (k : Int) := by omega
          have hx2 : (x : Int) ≤ (cap : Int) := by omega
          have hx3 : x ≤ k := by omega
          have hx4 : x ≤ cap := by omega
          have S5 := Lib.hid hs5
          clear hR5 hK5 hs5
          go_wp2
          go_region_law (first
            | (refine step_append_any _ (by rfl) (.tmp 33) (.tmp 36) 33 (by rfl) w5.heap.size 3 i0 Tryz.underlying33 hi hz0 hz1 hz2 _ 0 0 [] (by rfl) (owns_empty (by first | exact heap_alloc_last _ _ | exact (Below.heap_alloc _ _ _ (by simp)).trans (heap_alloc_last _ _) | exact (by have h := heap_alloc_last (w5.alloc (.cells #[.int .i64 k] 3)) (.cells #[] 3); rw [World.size_alloc] at h; exact h)) (by first | exact Nat.le_refl _ | (simp; done) | (simp; omega) | omega)) ⟨g, 0, none⟩ x cap (cellsL x Y) (by rfl) (cellsL_length x Y) (RX.out.news (by repeat (first | assumption | exact Below.refl _ _ | refine Below.drew ?_ | refine below_alloc ?_ _))) (cellsL_one x Y) (by omega) (by first | exact Nat.le_refl _ | (simp; done) | (simp; omega) | omega) ?_; intro g1 cap1 w6 hown1 hgrow1; simp only [Nat.zero_add, List.nil_append] at hown1; have hb1 : Below w5.heap.size w5 w6 := Below.grown (by repeat (first | assumption | exact Below.refl _ _ | refine Below.drew ?_ | refine below_alloc ?_ _)) hgrow1 (by first | exact Nat.le_refl _ | (simp; done) | (simp; omega) | omega) (fun k h => by cases h; first | exact Nat.le_refl _ | simp | omega))
            | (refine step_append_any _ (by rfl) (.tmp 37) (.tmp 39) 33 (by rfl) w5.heap.size 3 i0 Tryz.underlying33 hi hz0 hz1 hz2 g1 x cap1 (cellsL x Y) (by rfl) (by first | exact hown1 | exact hown1.alloc _) ⟨_, 0, none⟩ 1 1 [.int .i64 k] (by rfl) (by rfl) (news_one (by first | (simp; done) | exact hgrow1.cell (by simp) (fun e => by simp at e))) (by simp [Value.oneCell']) (by omega) (by have := hb1.size; first | omega | (simp; omega)) ?_; intro g2 cap2 w7 hown2 hgrow2; have hb2 : Below w5.heap.size w5 w7 := Below.grown (by repeat (first | assumption | exact Below.refl _ _ | refine Below.drew ?_ | refine below_alloc ?_ _)) hgrow2 (by have := hb1.size; first | omega | (simp; omega)) (fun k h => by cases h; exact (owns_cap hown1).2.1))
            | (refine step_append_any _ (by rfl) (.tmp 40) (.tmp 43) 33 (by rfl) w5.heap.size 3 i0 Tryz.underlying33 hi hz0 hz1 hz2 g2 (x + 1) cap2 (cellsL x Y ++ [.int .i64 k]) (by rfl) (by first | exact hown2 | exact hown2.alloc _) ⟨g, o', none⟩ (k - x) _ (cellsL (k - x) fun j => Y (x + j)) (by rfl) (cellsL_length _ _) (RY.out.news (by repeat (first | assumption | exact Below.refl _ _ | refine Below.drew ?_ | refine below_alloc ?_ _))) (cellsL_one _ _) (by omega) (by have := hb2.size; first | omega | (simp; omega)) ?_; intro g3 cap3 w8 hown3 hgrow3; have hb3 : Below w5.heap.size w5 w8 := Below.grown (by repeat (first | assumption | exact Below.refl _ _ | refine Below.drew ?_ | refine below_alloc ?_ _)) hgrow3 (by have := hb2.size; first | omega | (simp; omega)) (fun k h => by cases h; exact (owns_cap hown2).2.1)))
          all_goals
            have el : x + 1 + (k - x) = k + 1 := by omega
            rw [el] at hown3
            obtain ⟨Y', hq⟩ := owns_cells hown3 (by
              intro u hu
              simp only [List.mem_append, cellsL, List.mem_map, List.mem_singleton] at hu
              rcases hu with (⟨_, _, rfl⟩ | rfl) | ⟨_, _, rfl⟩ <;> exact ⟨_, rfl⟩)
            have H3 := Lib.hid hq
            have B3 := Lib.hid hb3
            have EL := Lib.hid el
            clear hown1 hgrow1 hb1 hown2 hgrow2 hb2 hown3 hgrow3 hb3 hq el
            go_wp2
            go_roundw
            case rel =>
              have hs5 := S5.out
              refine ⟨k + 1, by omega, by go_num, g3, cap3, Y', pk + 1, by rw [EL.out], owns_base H3.out (by omega), HR5.out.of_block (B3.out.block r (by omega)), by omega, HU5.out.trans (ButR.below (B3.out.mono (by omega)))⟩
            case measure => simp [intOf]; omega
        · obtain rfl : N = k := by omega
          have hs1 := S1.out
          have HM2 := Lib.hid (making_butR HM.out hrl1 HU.out)
          have HUw := Lib.hid (HUi.out.trans (HU.out.mono hwo))
          have HV := Lib.hid (fun x hx => HM.out.1.lt x hx)
          clear hs1
          by_cases hi0 : i = 0
          · have hd : decide (0 < (i : Int)) = false := by simp; omega
            have hd2 : decide (0 < i) = false := by simp; omega
            clear hi0
            have HROW := Lib.hid (OwnR.of_owns HO.out)
            have hltr := HO.out.lt g rfl
            go_wp2_with (at_builtin; refine wpList_append_lies _ (by rfl) (.tmp 59) (.tmp 61) 23 (by rfl) w1.heap.size 33 i1 (.slice none 0 0) 1 24 Tryz.underlying23 hj hy0 hy1 hy2 (by rfl) (by decide) ov i ((List.range i).map fun r => .slice (some ⟨G r, 0, none⟩) N (Cp r)) (by rfl) (HM2.out.1.alloc _) ⟨_, 0, none⟩ 1 1 [.slice (some ⟨g, 0, none⟩) N cap] (by rfl) (by rfl) (news_one (by simp)) (by simp [Value.oneCell']) (by omega) (by unfold maxLen; omega) (by omega) (by first | omega | (simp; omega)) _ rfl ?_; intro g2 cap2 w2 hown2 hgrow2 hat2 hlt2; have N2 := Lib.hid hown2; have G2' := Lib.hid hgrow2; have A2 := Lib.hid hat2; clear hown2 hgrow2 hat2)
            have hs1 := S1.out
            go_roundw
            case rel =>
              refine ⟨i + 1, by omega, by go_num, _, (fun s => if s < i then G s else g), (fun s => if s < i then Cp s else cap), (fun s => if s < i then XX s else Y), pk, rfl, ?_, ?_, (HR.out.alloc _).grown G2'.out (fun e => by have := (HV.out r e).1; omega), by omega, by have := G2'.out.size; simp at this; omega, (HUw.out.alloc (by omega) _).grown G2'.out (by simp; omega) (fun x hx => by have := (HV.out x hx).1; omega)⟩
              · refine Making.next (w := wr.alloc _) ((making_same HM2.out (fun s hs => by show XX s = (if s < i then XX s else Y); rw [if_pos hs])).below (below_alloc (Below.refl _ _) _)) (by show OwnR _ g _ N (if i < i then XX i else Y); rw [if_neg (Nat.lt_irrefl _)]; exact HROW.out.of_block (Below.heap_alloc _ _ _ hltr.2)) (by omega) (by simp; omega) (fun h => by have := HV.out g h; omega) (fun s hs e => by have := (HM.out.2.1 s hs).2.1; omega) N2.out G2'.out A2.out (Nat.le_refl _)
              · intro s hs
                show N ≤ (if s < i then Cp s else cap)
                by_cases e : s < i
                · rw [if_pos e]; exact HCp.out s e
                · rw [if_neg e]; omega
            case measure => simp [intOf]; omega
          · have hd : decide (0 < (i : Int)) = true := by simp; omega
            have hd2 : decide (0 < i) = true := by simp; omega
            have hi1 : 0 < i := by omega
            clear hi0
            go_wp2_with fail
            refine (pick_any r n c pk 4 a B _ HR.out (HB.out.but HAL.out HUw.out) HAB.out hn (by omega) (by omega) (by omega)).mono ?_
            rintro e w6 ⟨y, rfl, hy, hR6, hK6⟩
            have HR6 := Lib.hid hR6
            have HM6 := Lib.hid (making_but HM2.out hrl1 hK6)
            have O6 := Lib.hid (owns_but HO.out hrwo hK6)
            have HU6 := Lib.hid (HUw.out.trans (ButR.keeps hK6))
            have hs6 : w6.heap.size = wr.heap.size := hK6.size
            have S6 := Lib.hid hs6
            clear hR6 hK6 hs6
            by_cases hyz : y = 0
            · subst hyz
              obtain ⟨j, hj1⟩ : ∃ j, i = j + 1 := ⟨i - 1, by omega⟩
              obtain ⟨go, co, hov⟩ := owns_form HM6.out.1 hi1
              have HM6' := HM6.out
              rw [hov] at HM6'
              obtain ⟨b', o', e', hcj, hrj⟩ := HM6'.ownT.tab j (by omega)
              simp only [Option.some.injEq, Addr.mk.injEq, and_true] at e'
              obtain ⟨rfl, rfl⟩ := e'
              rw [Nat.zero_add] at hcj
              have RQ := Lib.hid hrj
              have hcj2 : (w6.alloc (.cells #[] 3)).cell? ⟨go, j, none⟩ = some (.slice (some ⟨G j, 0, none⟩) N (Cp j)) := (World.cell?_of_block (w := w6) (a := ⟨go, j, none⟩) (Below.heap_alloc _ _ _ (World.block_lt_of_cell? _ _ hcj))).trans hcj
              clear hcj
              have hjw : IntKind.i64.wrap ((i : Int) - 1) = (j : Int) := by rw [IntWalk.i64_in _ (by omega)]; omega
              have hjj : (i : Int) - 1 = (j : Int) := by omega
              have hji : (j : Int) < (i : Int) := by omega
              have hji2 : j < i := by omega
              have HOV := Lib.hid hov
              have HJ := Lib.hid hj1
              clear HM6' hrj hj1
              subst hov
              go_wp2_with (first
                | (at_builtin; refine wpList_append_any _ (by rfl) (.tmp 52) (.tmp 57) 33 (by rfl) w6.heap.size 3 i0 Tryz.underlying33 hi hz0 hz1 hz2 _ 0 0 [] (by rfl) (owns_empty (heap_alloc_last _ _) (by first | exact Nat.le_refl _ | (simp; done) | (simp; omega) | omega)) ⟨G j, 0, none⟩ N (Cp j) (cellsL N (XX j)) (by rfl) (cellsL_length _ _) (RQ.out.news (by repeat (first | assumption | exact Below.refl _ _ | refine Below.drew ?_ | refine below_alloc ?_ _))) (cellsL_one _ _) (by omega) (by first | exact Nat.le_refl _ | (simp; done) | (simp; omega) | omega) ?_; intro g1 cap1 w7 hown1 hgrow1; simp only [Nat.zero_add, List.nil_append] at hown1; have hb1 : Below w6.heap.size w6 w7 := Below.grown (by repeat (first | assumption | exact Below.refl _ _ | refine Below.drew ?_ | refine below_alloc ?_ _)) hgrow1 (by first | exact Nat.le_refl _ | (simp; done) | (simp; omega) | omega) (fun k h => by cases h; first | exact Nat.le_refl _ | simp | omega); have O7 := Lib.hid hown1; have HB7 := Lib.hid hb1; have HM7 := Lib.hid (HM6.out.below hb1); have HROW := Lib.hid (OwnR.of_owns hown1); have hltr := hown1.lt g1 rfl; have hcp1 := (owns_cap hown1).1; have hs7 := hb1.size; have hle7 : w1.heap.size ≤ w7.heap.size := (by have h2 := S6.out; omega); clear hown1 hgrow1 hb1)
                | (at_builtin; refine wpList_append_lies _ (by rfl) (.tmp 59) (.tmp 61) 23 (by rfl) w1.heap.size 33 i1 (.slice none 0 0) 1 24 Tryz.underlying23 hj hy0 hy1 hy2 (by rfl) (by decide) (.slice (some ⟨go, 0, none⟩) i co) i ((List.range i).map fun r => .slice (some ⟨G r, 0, none⟩) N (Cp r)) (by rfl) (HM7.out.1.alloc _) ⟨_, 0, none⟩ 1 1 [.slice (some ⟨g1, 0, none⟩) N cap1] (by rfl) (by rfl) (news_one (by simp)) (by simp [Value.oneCell']) (by omega) (by unfold maxLen; omega) (by omega) (by first | omega | (simp; omega)) _ rfl ?_; intro g2 cap2 w2 hown2 hgrow2 hat2 hlt2; have N2 := Lib.hid hown2; have G2' := Lib.hid hgrow2; have A2 := Lib.hid hat2; clear hown2 hgrow2 hat2))
              have hs6 := S6.out
              have hs1 := S1.out
              have HR7 := Lib.hid (HR6.out.of_block (HB7.out.block r (by omega)))
              have HU7 := Lib.hid (HU6.out.trans (ButR.below (HB7.out.mono (by omega))))
              go_roundw
              case rel =>
                refine ⟨i + 1, by omega, by go_num, _, (fun s => if s < i then G s else g1), (fun s => if s < i then Cp s else cap1), (fun s => if s < i then XX s else (XX j)), pk + 1, rfl, ?_, ?_, (HR7.out.alloc _).grown G2'.out (fun e => by have := (HV.out r e).1; omega), by omega, by have := G2'.out.size; simp at this; omega, (HU7.out.alloc (by omega) _).grown G2'.out (by simp; omega) (fun x hx => by have := (HV.out x hx).1; omega)⟩
                · refine Making.next (w := w7.alloc _) ((making_same HM7.out (fun s hs => by show XX s = (if s < i then XX s else (XX j)); rw [if_pos hs])).below (below_alloc (Below.refl _ _) _)) (by show OwnR _ g1 _ N (if i < i then XX i else (XX j)); rw [if_neg (Nat.lt_irrefl _)]; exact HROW.out.of_block (Below.heap_alloc _ _ _ hltr.2)) (by omega) (by simp; omega) (fun h => by have := HV.out g1 h; omega) (fun s hs e => by have := (HM.out.2.1 s hs).2.1; omega) N2.out G2'.out A2.out (Nat.le_refl _)
                · intro s hs
                  show N ≤ (if s < i then Cp s else cap1)
                  by_cases e : s < i
                  · rw [if_pos e]; exact HCp.out s e
                  · rw [if_neg e]; omega
              case measure => simp [intOf]; omega
            · have hne : ((y : Int) == 0) = false := beq_eq_false_iff_ne.2 (by omega)
              have HROW := Lib.hid (OwnR.of_owns O6.out)
              have hltr := O6.out.lt g rfl
              go_wp2_with (at_builtin; refine wpList_append_lies _ (by rfl) (.tmp 59) (.tmp 61) 23 (by rfl) w1.heap.size 33 i1 (.slice none 0 0) 1 24 Tryz.underlying23 hj hy0 hy1 hy2 (by rfl) (by decide) ov i ((List.range i).map fun r => .slice (some ⟨G r, 0, none⟩) N (Cp r)) (by rfl) (HM6.out.1.alloc _) ⟨_, 0, none⟩ 1 1 [.slice (some ⟨g, 0, none⟩) N cap] (by rfl) (by rfl) (news_one (by simp)) (by simp [Value.oneCell']) (by omega) (by unfold maxLen; omega) (by omega) (by first | omega | (simp; omega)) _ rfl ?_; intro g2 cap2 w2 hown2 hgrow2 hat2 hlt2; have N2 := Lib.hid hown2; have G2' := Lib.hid hgrow2; have A2 := Lib.hid hat2; clear hown2 hgrow2 hat2)
              have hs1 := S1.out
              have hs6 := S6.out
              go_roundw
              case rel =>
                refine ⟨i + 1, by omega, by go_num, _, (fun s => if s < i then G s else g), (fun s => if s < i then Cp s else cap), (fun s => if s < i then XX s else Y), pk + 1, rfl, ?_, ?_, (HR6.out.alloc _).grown G2'.out (fun e => by have := (HV.out r e).1; omega), by omega, by have := G2'.out.size; simp at this; omega, (HU6.out.alloc (by omega) _).grown G2'.out (by simp; omega) (fun x hx => by have := (HV.out x hx).1; omega)⟩
                · refine Making.next (w := w6.alloc _) ((making_same HM6.out (fun s hs => by show XX s = (if s < i then XX s else Y); rw [if_pos hs])).below (below_alloc (Below.refl _ _) _)) (by show OwnR _ g _ N (if i < i then XX i else Y); rw [if_neg (Nat.lt_irrefl _)]; exact HROW.out.of_block (Below.heap_alloc _ _ _ hltr.2)) (by omega) (by simp; omega) (fun h => by have := HV.out g h; omega) (fun s hs e => by have := (HM.out.2.1 s hs).2.1; omega) N2.out G2'.out A2.out (Nat.le_refl _)
                · intro s hs
                  show N ≤ (if s < i then Cp s else cap)
                  by_cases e : s < i
                  · rw [if_pos e]; exact HCp.out s e
                  · rw [if_neg e]; omega
              case measure => simp [intOf]; omega
    · obtain rfl : N = i := by omega
      obtain ⟨go, co, rfl⟩ := owns_form HM.out.1 (by omega)
      have hcapo := (owns_cap HM.out.1).1
      go_wp2_with fail
      refine (pick_any r n c pi 50 a B _ HRi.out (HB.out.but HAL.out HUi.out) HAB.out hn (by omega) (by omega) (by omega)).mono ?_
      rintro e w7 ⟨u, rfl, hu, hR7, hK7⟩
      have M7 := Lib.hid (making_but HM.out hrl1 hK7)
      have HR7 := Lib.hid hR7
      have U7 := Lib.hid (HUi.out.trans (ButR.keeps hK7))
      have T7 := Lib.hid M7.out.ownT.tab
      have hgo := M7.out.1.lt go rfl
      have AG7 := Lib.hid (show w.heap.size ≤ go by have := S1.out; have := hgo.1; omega)
      have AP7 := Lib.hid (show ∀ s, s < N → w.heap.size ≤ G s from fun s hs => by have := S1.out; have := (M7.out.2.1 s hs).1; omega)
      clear hR7 hK7 hgo
      by_cases hu0 : u = 0
      · subst hu0
        have hd : (((0 : Nat) : Int) == 0) = true := by decide
        have hct := M7.out.1.cells (g := go) rfl 0 (.slice (some ⟨G 0, 0, none⟩) N (Cp 0)) (by simp [show 0 < N by omega])
        rw [Go.WideShapes.add_plain, Nat.zero_add] at hct
        obtain ⟨hG1, hG2, hG3, hG4⟩ := M7.out.2.1 0 (by omega)
        have hne : go ≠ G 0 := fun e => hG3 (by rw [← e]; rfl)
        have hrG : r ≠ G 0 := by omega
        obtain ⟨hc1, hf1⟩ : w7.cell? ⟨G 0, 0, none⟩ = some (.int .i64 (XX 0 0)) ∧ w7.frozen? ⟨G 0, 0, none⟩ = false := by
          rcases hG4 with h0 | ⟨o, ha, hc⟩
          · have h0' : N = 0 := h0
            omega
          · simp only [Option.some.injEq, Addr.mk.injEq, true_and, and_true] at ha
            subst ha
            exact hc 0 (show 0 < N by omega)
        have HC1 := Lib.hid hc1
        clear hG3 hG4
        go_wp2
        go_ret
        refine ⟨some ⟨go, 0, none⟩, N, co, fun s => some ⟨G s, 0, none⟩, fun _ => N, Cp, (fun s k => if s = 0 ∧ k = 0 then (N : Int) else XX s k), pi + 1, rfl, ⟨by omega, by omega⟩, ⟨fun s hs => by show N ≤ 5; omega, fun b o e => by cases e; exact AG7.out, fun s hs b o e => by cases e; exact AP7.out s hs⟩, ?_, HR7.out.of_block (Below.heap_setCell _ _ _ _ hrG), by omega, U7.out.setCell (p := ⟨G 0, 0, none⟩) (by show w.heap.size ≤ G 0; exact AP7.out 0 (by omega)) _⟩
        intro s hs
        obtain ⟨b', o', e', hc', hr'⟩ := T7.out s hs
        cases e'
        refine ⟨go, 0, rfl, ?_, fun k hk => ?_⟩
        · rw [World.cell?_of_block (w := w7) (a := ⟨go, 0 + s, none⟩) (Below.heap_setCell _ _ _ _ hne)]; exact hc'
        · obtain ⟨b2, o2, e2, hc2⟩ := hr' k hk
          refine ⟨b2, o2, e2, ?_⟩
          cases e2
          rw [Nat.zero_add] at hc2 ⊢
          show _ = some (Value.int .i64 (if s = 0 ∧ k = 0 then (N : Int) else XX s k))
          by_cases hs0 : s = 0 ∧ k = 0
          · obtain ⟨rfl, rfl⟩ := hs0
            rw [if_pos ⟨rfl, rfl⟩]
            exact World.cell?_setCell_same _ _ _ HC1.out
          · rw [if_neg hs0, World.cell?_setCell_other _ _ _ _ (fun e' => hs0 ?_)]
            · exact hc2
            · injection e' with e1 e2'
              refine ⟨?_, e2'.symm⟩
              rcases Nat.eq_zero_or_pos s with h' | h'
              · exact h'
              · exact absurd e1 (M7.out.2.2 0 s (by omega) hs (by omega))
      · have hd0 : ((u : Int) == 0) = false := by simp; omega
        by_cases hu1 : u = 1
        · subst hu1
          have hd1 : (((1 : Nat) : Int) == 1) = true := by decide
          obtain ⟨j, hj1⟩ : ∃ j, N = j + 1 := ⟨N - 1, by omega⟩
          have hjN : j < N := by omega
          have hji : (j : Int) < (N : Int) := by omega
          have hjw : IntKind.i64.wrap ((N : Int) - 1) = (j : Int) := by rw [IntWalk.i64_in _ (by omega)]; omega
          have hjj : (N : Int) - 1 = (j : Int) := by omega
          have hcpj := HCp.out j hjN
          have hcp2 : 2 ≤ Cp j := by omega
          obtain ⟨b', o', e', hcj, hrj⟩ := T7.out j hjN
          simp only [Option.some.injEq, Addr.mk.injEq, and_true] at e'
          obtain ⟨rfl, rfl⟩ := e'
          rw [Nat.zero_add] at hcj
          have hfj : w7.frozen? ⟨go, j, none⟩ = false := World.ownsRow.frozenAt M7.out.1 j
          have RJ := Lib.hid hrj
          have HCJ := Lib.hid hcj
          have hneG : ∀ s, s < N → go ≠ G s := fun s hs e => (M7.out.2.1 s hs).2.2.1 (by rw [← e]; rfl)
          have HNG := Lib.hid hneG
          have HJ := Lib.hid hj1
          have hrgo : r ≠ go := fun e => by have := AG7.out; omega
          clear hrj hneG hj1
          go_wp2
          go_ret
          refine ⟨some ⟨go, 0, none⟩, N, co, (fun s => if s = j then some ⟨G j, 1, none⟩ else some ⟨G s, 0, none⟩), (fun s => if s = j then N - 1 else N), (fun s => if s = j then Cp j - 1 else Cp s), (fun s k => if s = j then XX j (k + 1) else XX s k), pi + 1, rfl, ⟨by omega, by omega⟩, ⟨fun s hs => by show (if s = j then N - 1 else N) ≤ 5; split <;> omega, fun b o e => by cases e; exact AG7.out, fun s hs b o e => ?_⟩, ?_, HR7.out.of_block (Below.heap_setCell _ _ _ _ hrgo), by omega, U7.out.setCell (p := ⟨go, j, none⟩) (by show w.heap.size ≤ go; exact AG7.out) _⟩
          · have e' : (if s = j then some (⟨G j, 1, none⟩ : Addr) else some ⟨G s, 0, none⟩) = some ⟨b, o, none⟩ := e
            by_cases h : s = j
            · rw [if_pos h] at e'; cases e'; exact AP7.out j hjN
            · rw [if_neg h] at e'; cases e'; exact AP7.out s hs
          · intro s hs
            by_cases h : s = j
            · subst h
              refine ⟨go, 0, rfl, ?_, fun k hk => ?_⟩
              · rw [Nat.zero_add]
                show _ = some (Value.slice (if s = s then some ⟨G s, 1, none⟩ else some ⟨G s, 0, none⟩) (if s = s then N - 1 else N) (if s = s then Cp s - 1 else Cp s))
                rw [if_pos rfl, if_pos rfl, if_pos rfl]
                exact World.cell?_setCell_same _ _ _ HCJ.out
              · have hk' : k < (if s = s then N - 1 else N) := hk
                rw [if_pos rfl] at hk'
                obtain ⟨b2, o2, e2, hc2⟩ := RJ.out (k + 1) (by omega)
                cases e2
                refine ⟨G s, 1, by show (if s = s then some (⟨G s, 1, none⟩ : Addr) else some ⟨G s, 0, none⟩) = _; rw [if_pos rfl], ?_⟩
                show _ = some (Value.int .i64 (if s = s then XX s (k + 1) else XX s k))
                rw [if_pos rfl, World.cell?_of_block (w := w7) (a := ⟨G s, 1 + k, none⟩) (Below.heap_setCell _ _ _ _ (fun e => HNG.out s hs e.symm)), ← hc2, Nat.zero_add, Nat.add_comm 1 k]
            · obtain ⟨b', o', e', hc', hr'⟩ := T7.out s hs
              cases e'
              refine ⟨go, 0, rfl, ?_, fun k hk => ?_⟩
              · show _ = some (Value.slice (if s = j then some ⟨G j, 1, none⟩ else some ⟨G s, 0, none⟩) (if s = j then N - 1 else N) (if s = j then Cp j - 1 else Cp s))
                rw [if_neg h, if_neg h, if_neg h, World.cell?_setCell_other _ _ _ _ (fun e' => h (by injection e' with e1 e2'; omega))]
                exact hc'
              · have hk' : k < (if s = j then N - 1 else N) := hk
                rw [if_neg h] at hk'
                obtain ⟨b2, o2, e2, hc2⟩ := hr' k hk'
                cases e2
                refine ⟨G s, 0, by show (if s = j then some (⟨G j, 1, none⟩ : Addr) else some ⟨G s, 0, none⟩) = _; rw [if_neg h], ?_⟩
                show _ = some (Value.int .i64 (if s = j then XX j (k + 1) else XX s k))
                rw [if_neg h, World.cell?_of_block (w := w7) (a := ⟨G s, 0 + k, none⟩) (Below.heap_setCell _ _ _ _ (fun e => HNG.out s hs e.symm))]
                exact hc2
        · have hd1 : ((u : Int) == 1) = false := by simp; omega
          go_wp2
          go_ret
          exact ⟨some ⟨go, 0, none⟩, N, co, fun s => some ⟨G s, 0, none⟩, fun _ => N, Cp, XX, pi + 1, rfl, ⟨by omega, by omega⟩, ⟨fun s hs => by show N ≤ 5; omega, fun b o e => by cases e; exact AG7.out, fun s hs b o e => by cases e; exact AP7.out s hs⟩, T7.out, HR7.out, by omega, U7.out⟩
end Go.Proofs.YtabdbgnkiebcdaaGreatDoor

namespace Go.Proofs.YtabdbgnkiebcdaaGreatDoor
set_option linter.unusedVariables false
open Go.RowKit

set_option maxHeartbeats 3200000 in
theorem l91Order_any (r n c p m : Nat) (a : Option Addr) (B : Nat → Nat) (w : World) (hR : RdrAt w r a n c p) (hb : RdB w a n B) (hab : 0 < n → ∀ b o, a = some ⟨b, o, none⟩ → b < w.heap.size ∧ b ≠ r) (hn : n ≤ 2000) (hp : p ≤ 1000) (hm : m ≤ 5) :
    Calls Tryz.prog 115 #[.pointer (some ⟨r, 0, none⟩), .int .i64 m] w (DrewAny r a n c p m w) := by
  obtain ⟨i0, hi, hz0, hz1, hz2⟩ := info_parts Tryz.infoInt
  have hrlt := hR.lt
  have HR0 := Lib.hid (hR.alloc (.cells #[] 3))
  have HB := Lib.hid hb
  have HAL := Lib.hid hab
  have HAB := Lib.hid (show 0 < n → ∀ b o, a = some ⟨b, o, none⟩ → b ≠ r from fun h0 b o e => (hab h0 b o e).2)
  clear hR hb hab
  go_enter Tryz.func115, Tryz.ntmps115
  go_wp2
  have R0 := Lib.hid (show (w.alloc (.cells #[] 3)).ownsRow w.heap.size 3 1 (.slice (some ⟨w.heap.size, 0, none⟩) 0 0) 0 (cellsL 0 (fun _ => 0)) from World.ownsRow_made w #[] 0 (Nat.le_refl _) (Nat.zero_le _) (by simp))
  have U0 := Lib.hid (ButR.alloc (ButR.refl r w.heap.size w) (Nat.le_refl _) (.cells #[] 3))
  go_loopw [5, 6, 7] (fun row s _ wi => ∃ k : Nat, k ≤ m ∧ s = .int .i64 k ∧ ∃ g cap Y p', row = .slice (some ⟨g, 0, none⟩) k cap ∧ wi.ownsRow w.heap.size 3 1 (.slice (some ⟨g, 0, none⟩) k cap) k (cellsL k Y) ∧ RdrAt wi r a n c p' ∧ p' ≤ p + k ∧ ButR r w.heap.size w wi) (fun _ s _ _ => m - (intOf s).toNat)
  case atStart => exact ⟨0, Nat.zero_le _, rfl, w.heap.size, 0, fun _ => 0, p, rfl, R0.out, HR0.out, by omega, U0.out⟩
  case round =>
    obtain ⟨k, hk, rfl, g, cap, Y, p', rfl, hown, hR, hp', hU⟩ := hrel
    clear R0 HR0 U0
    have HO := Lib.hid hown
    have HR := Lib.hid hR
    have HU := Lib.hid hU
    have hsz := hU.size
    obtain ⟨hkc, hgb, hglt⟩ := owns_cap hown
    clear hown hR hU
    by_cases hlt : k < m
    · go_wp2_with fail
      rw [show ((k : Int) + 1) = ((k + 1 : Nat) : Int) by omega]
      refine (pick_any r n c p' (k + 1) a B _ HR.out (HB.out.but HAL.out HU.out) HAB.out hn (by omega) (by omega) (by omega)).mono ?_
      rintro e w5 ⟨x, rfl, hx, hR5, hK5⟩
      have HR5 := Lib.hid hR5
      have hs5 : w5.heap.size = wr.heap.size := hK5.size
      have HU5 := Lib.hid (HU.out.trans (ButR.keeps hK5))
      have O5 := Lib.hid (owns_but HO.out hrlt hK5)
      have RX := Lib.hid (show Rd w5 (some ⟨g, 0, none⟩) x Y from fun j hj => owns_rd O5.out j (by omega))
      obtain ⟨o', hif, ho'⟩ : ∃ o' : Nat, (if cap = x then some (⟨g, 0, none⟩ : Addr) else some ⟨g, x, none⟩) = some ⟨g, o', none⟩ ∧ (cap = x ∨ o' = x) := by
        by_cases e : cap = x
        · exact ⟨0, by rw [if_pos e], .inl e⟩
        · exact ⟨x, by rw [if_neg e], .inr rfl⟩
      have RY := Lib.hid (show Rd w5 (some ⟨g, o', none⟩) (k - x) (fun j => Y (x + j)) from fun j hj => by
        obtain ⟨b', q', he, hc⟩ := owns_rd O5.out (x + j) (by omega)
        simp only [Option.some.injEq, Addr.mk.injEq, and_true] at he
        obtain ⟨rfl, rfl⟩ := he
        rw [Nat.zero_add] at hc
        have e : o' = x := by omega
        subst e
        exact ⟨g, o', rfl, hc⟩)
      clear ho'
      have hx1 : (x : Int) ≤ (k : Int) := by omega
      have hx2 : (x : Int) ≤ (cap : Int) := by omega
      have hx3 : x ≤ k := by omega
      have hx4 : x ≤ cap := by omega
      have S5 := Lib.hid hs5
      clear hR5 hK5 hs5
      go_wp2
      go_region_law (first
        | (refine step_append_any _ (by rfl) (.tmp 19) (.tmp 22) 33 (by rfl) w5.heap.size 3 i0 Tryz.underlying33 hi hz0 hz1 hz2 _ 0 0 [] (by rfl) (owns_empty (by first | exact heap_alloc_last _ _ | exact (Below.heap_alloc _ _ _ (by simp)).trans (heap_alloc_last _ _) | exact (by have h := heap_alloc_last (w5.alloc (.cells #[.int .i64 k] 3)) (.cells #[] 3); rw [World.size_alloc] at h; exact h)) (by first | exact Nat.le_refl _ | (simp; done) | (simp; omega) | omega)) ⟨g, 0, none⟩ x cap (cellsL x Y) (by rfl) (cellsL_length x Y) (RX.out.news (by repeat (first | assumption | exact Below.refl _ _ | refine Below.drew ?_ | refine below_alloc ?_ _))) (cellsL_one x Y) (by omega) (by first | exact Nat.le_refl _ | (simp; done) | (simp; omega) | omega) ?_; intro g1 cap1 w6 hown1 hgrow1; simp only [Nat.zero_add, List.nil_append] at hown1; have hb1 : Below w5.heap.size w5 w6 := Below.grown (by repeat (first | assumption | exact Below.refl _ _ | refine Below.drew ?_ | refine below_alloc ?_ _)) hgrow1 (by first | exact Nat.le_refl _ | (simp; done) | (simp; omega) | omega) (fun k h => by cases h; first | exact Nat.le_refl _ | simp | omega))
        | (refine step_append_any _ (by rfl) (.tmp 23) (.tmp 25) 33 (by rfl) w5.heap.size 3 i0 Tryz.underlying33 hi hz0 hz1 hz2 g1 x cap1 (cellsL x Y) (by rfl) (by first | exact hown1 | exact hown1.alloc _) ⟨_, 0, none⟩ 1 1 [.int .i64 k] (by rfl) (by rfl) (news_one (by first | (simp; done) | exact hgrow1.cell (by simp) (fun e => by simp at e))) (by simp [Value.oneCell']) (by omega) (by have := hb1.size; first | omega | (simp; omega)) ?_; intro g2 cap2 w7 hown2 hgrow2; have hb2 : Below w5.heap.size w5 w7 := Below.grown (by repeat (first | assumption | exact Below.refl _ _ | refine Below.drew ?_ | refine below_alloc ?_ _)) hgrow2 (by have := hb1.size; first | omega | (simp; omega)) (fun k h => by cases h; exact (owns_cap hown1).2.1))
        | (refine step_append_any _ (by rfl) (.tmp 26) (.tmp 29) 33 (by rfl) w5.heap.size 3 i0 Tryz.underlying33 hi hz0 hz1 hz2 g2 (x + 1) cap2 (cellsL x Y ++ [.int .i64 k]) (by rfl) (by first | exact hown2 | exact hown2.alloc _) ⟨g, o', none⟩ (k - x) _ (cellsL (k - x) fun j => Y (x + j)) (by rfl) (cellsL_length _ _) (RY.out.news (by repeat (first | assumption | exact Below.refl _ _ | refine Below.drew ?_ | refine below_alloc ?_ _))) (cellsL_one _ _) (by omega) (by have := hb2.size; first | omega | (simp; omega)) ?_; intro g3 cap3 w8 hown3 hgrow3; have hb3 : Below w5.heap.size w5 w8 := Below.grown (by repeat (first | assumption | exact Below.refl _ _ | refine Below.drew ?_ | refine below_alloc ?_ _)) hgrow3 (by have := hb2.size; first | omega | (simp; omega)) (fun k h => by cases h; exact (owns_cap hown2).2.1)))
      all_goals
        have el : x + 1 + (k - x) = k + 1 := by omega
        rw [el] at hown3
        obtain ⟨Y', hq⟩ := owns_cells hown3 (by
          intro u hu
          simp only [List.mem_append, cellsL, List.mem_map, List.mem_singleton] at hu
          rcases hu with (⟨_, _, rfl⟩ | rfl) | ⟨_, _, rfl⟩ <;> exact ⟨_, rfl⟩)
        have H3 := Lib.hid hq
        have B3 := Lib.hid hb3
        have EL := Lib.hid el
        clear hown1 hgrow1 hb1 hown2 hgrow2 hb2 hown3 hgrow3 hb3 hq el
        go_wp2
        go_roundw
        case rel =>
          have hs5 := S5.out
          refine ⟨k + 1, by omega, by go_num, g3, cap3, Y', p' + 1, by rw [EL.out], owns_base H3.out (by omega), HR5.out.of_block (B3.out.block r (by omega)), by omega, HU5.out.trans (ButR.below (B3.out.mono (by omega)))⟩
        case measure => simp [intOf]; omega
    · obtain rfl : k = m := by omega
      go_wp2_with fail
      refine (pick_any r n c p' 40 a B _ HR.out (HB.out.but HAL.out HU.out) HAB.out hn (by omega) (by omega) (by omega)).mono ?_
      rintro e w6 ⟨y, rfl, hy, hR6, hK6⟩
      have HR6 := Lib.hid hR6
      have HU6 := Lib.hid (HU.out.trans (ButR.keeps hK6))
      have O6 := Lib.hid (owns_but HO.out hrlt hK6)
      have hs6 : w6.heap.size = wr.heap.size := hK6.size
      have S6 := Lib.hid hs6
      clear hR6 hK6 hs6
      by_cases hy0 : y = 0
      · subst hy0
        go_wp2_with (at_builtin; refine wpList_append_lies _ (by rfl) (.tmp 34) (.tmp 35) 33 (by rfl) w.heap.size 3 i0 (.int .i64 0) 1 8 Tryz.underlying33 hi hz0 hz1 hz2 (by rfl) (by decide) (.slice (some ⟨g, 0, none⟩) k cap) k (cellsL k Y) (by rfl) (O6.out.alloc _) ⟨_, 0, none⟩ 1 1 [.int .i64 0] (by rfl) (by rfl) (news_one (by simp)) (by simp [Value.oneCell']) (by omega) (by unfold maxLen; omega) (by omega) (by have := S6.out; simp; omega) _ rfl ?_; intro g2 cap2 w7 hown2 hgrow2 hat2 hlt2; rw [cellsL_snoc] at hown2; have N2 := Lib.hid hown2; have G2 := Lib.hid hgrow2; clear hown2 hgrow2 hat2)
        go_ret
        have hs6 := S6.out
        have hc2 := owns_cap N2.out
        exact ⟨g2, k + 1, cap2, _, p' + 1, rfl, ⟨hc2.2.1, hc2.2.2, hc2.1, by omega⟩, owns_rd N2.out, (HR6.out.alloc _).grown G2.out (fun e => by simp only [Value.ownBlock, Option.some.injEq] at e; omega), by omega, (HU6.out.alloc (by omega) _).grown G2.out (by simp; omega) (fun k h => by cases h; omega)⟩
      · have hne : ((y : Int) == 0) = false := beq_eq_false_iff_ne.2 (by omega)
        go_wp2
        go_ret
        have hs6 := S6.out
        exact ⟨g, k, cap, Y, p' + 1, rfl, ⟨hgb, by omega, hkc, by omega⟩, owns_rd O6.out, HR6.out, by omega, HU6.out⟩
end Go.Proofs.YtabdbgnkiebcdaaGreatDoor
