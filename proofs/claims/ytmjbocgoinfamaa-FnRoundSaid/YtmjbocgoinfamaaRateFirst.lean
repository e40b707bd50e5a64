/- The program's RateFirst and RateGains. -/
import Derived.Test.YtmjbocgoinfamaaRateRounds
import Derived.Test.YtmjbocgoinfamaaGainModel
namespace Go.Proofs.Ytmjbocgoinfamaa
set_option linter.unusedVariables false
set_option linter.unusedSimpArgs false
open Go.RowKit
attribute [local go_sem] Oper.semAt_some wide_fn wide_round_fn

theorem run_loadVar_one {P : Program} (w : World) (ty : TypeId) (d : TypeDesc) (p : Addr) (v : Value) (hu : P.underlying ty = some d) (hd : (match d with | .struct _ | .array _ _ => true | _ => false) = false) (hc : w.cell? p = some v) : (loadVar ty p).run P w = .ok v w := by
  have hagg : (isAgg ty).run P w = .ok false w := by
    unfold isAgg
    rw [Sem.run_bind, run_underlying hu w]
    cases d <;> simp_all
  simp [loadVar, Sem.run_bind, hagg, hc]
theorem results_cells {P : Program} {fn : Func} {p q : Tmp} {ty ty' : TypeId} (h : fn.results = #[.cell p ty, .cell q ty']) (tmps : Array Value) (w : World) (g g' : Addr) (v u : Value) (d d' : TypeDesc)
    (hp : tmps.getD p undef = .pointer (some g)) (hq : tmps.getD q undef = .pointer (some g')) (hu : P.underlying ty = some d) (hd : (match d with | .struct _ | .array _ _ => true | _ => false) = false) (hu' : P.underlying ty' = some d') (hd' : (match d' with | .struct _ | .array _ _ => true | _ => false) = false)
    (h1 : w.cell? g = some v) (h2 : w.cell? g' = some u) : (results fn tmps).run P w = .ok (.tuple #[v, u]) w := by
  have hp' : tmps[p]?.getD undef = .pointer (some g) := by simpa using hp
  have hq' : tmps[q]?.getD undef = .pointer (some g') := by simpa using hq
  simp [results, h, hp', hq', asAddr, run_loadVar_one w ty d g v hu hd h1, run_loadVar_one w ty' d' g' u hu' hd' h2]

/-- What a row of one's own needs no room for: it has some. -/
theorem ownI_of_owns {w : World} {base tI n cap g lo : Nat} {X : Nat → Int} (h : w.ownsRow base tI 1 (.slice (some ⟨g, 0, none⟩) n cap) n (cellsL n X)) (hb : lo ≤ base) : OwnI w lo w.heap.size (some ⟨g, 0, none⟩) n X :=
  .inr ⟨g, Nat.le_trans hb (owns_cap h).2.1, (owns_cap h).2.2, OwnR.of_owns h⟩

/-- What the round leaves that hands back the first list. -/
def FirstX (s tI : Nat) (w : World) (c' : Code) (V : Nat → Prop) (pre : List (List Int)) (Wx : World) : Prop :=
  c' = .ret ∧ ∃ D g cap, pre = [D] ∧ V = (fun k => k < s + 2 ∨ k = g) ∧ s + 2 ≤ g ∧ Below s w Wx ∧ Wx.cell? ⟨s, 0, none⟩ = some (.slice (some ⟨g, 0, none⟩) D.length cap) ∧ Wx.cell? ⟨s + 1, 0, none⟩ = some (.bool true) ∧
    Wx.ownsRow s tI 1 (.slice (some ⟨g, 0, none⟩) D.length cap) D.length (cellsD D)

set_option maxRecDepth 100000 in
set_option maxHeartbeats 2000000 in
theorem rateFirst_any (n c : Nat) (a : Option Addr) (A : Nat → Option Addr) (L C : Nat → Nat) (Z : Nat → Nat → Int) (w : World) (hn0 : n ≤ 1048576) (hL0 : ∀ r, r < n → L r ≤ 1048576) (ha0 : Tab w a n A L C Z) :
    Calls Try.prog 27 #[.slice a n c] w (RetID (tt (0 < gainN n L Z)) (firstL n L Z).length (nth (firstL n L Z)) w) := by
  have H1 := Lib.hid (readRates_any n c a A L C Z ((w.alloc (.cells #[.slice none 0 0] 24)).alloc (.cells #[.bool false] 4)) hn0 hL0 (ha0.below (Nat.le_refl _) (below_alloc (below_alloc (Below.refl _ w) _) _)))
  clear hL0 ha0
  refine (callsIn_wide (n := 9)).1 ?_
  refine callsIn_of_wp_marks Try.func27 rfl trivial ?_ rfl
  simp only [Try.ntmps27, List.size_toArray, List.length_cons, List.length_nil, Nat.reduceAdd, Nat.reduceSub, Array.replicate_succ, Array.replicate_zero, List.push_toArray, List.append_toArray, List.nil_append, List.cons_append]
  by_cases hr : IsRates n L Z
  · have T1 := Lib.hid (tt_of hr)
    have T2 := Lib.hid (gainN_yes hr)
    have HR := Lib.hid hr
    have HK := Lib.hid (Kept.of_rates hr)
    have hn2 := hr.1.1
    have hn5 := hr.1.2
    clear hr
    gi_wp2_with (first
      | (gi_at_call 52; refine (callsIn_wide.2 H1.out).mono ?_; rintro e w0 ⟨rfl, hb0⟩; rw [T1.out]; simp only [World.size_alloc] at hb0; have hz0 : w.heap.size + 1 + 1 ≤ w0.heap.size := by have := hb0.size; simpa using this)
      | ((with_reducible refine arrI_alloc 25 _ (Try.zeroRates _) ?_); intro w1 hA1 hs1 hb1; have S1 := Lib.hid hs1; clear hs1)
      | ((with_reducible refine arrI_store 25 _ _ _ _ _ _ (rateF n L Z) ?_ ?_ hA1 Try.sizeRates ?_); exact rfl; exact rfl; intro w2 hA2 hs2 ho2 hb2; clear hA1; have B2 := Lib.hid ((hb0.trans (hb1.mono hz0)).trans (hb2.mono hz0)); have Z2 := Lib.hid (show w.heap.size + 1 + 1 ≤ w2.heap.size by have := hb1.size; omega); clear hb0 hb1 hb2 hs2 ho2 hz0)
      | ((with_reducible refine arrI_load 25 _ _ _ _ _ _ _ ?_ hA2 Try.underlying58 Try.sizeRates ?_); exact rfl)
      | (gi_at_call 72; refine (callsIn_wide.2 (gaining_any _ _)).mono ?_; rintro e w4 ⟨rfl, hA4, hs4, hb4⟩; have A4 := Lib.hid hA4; have S4 := Lib.hid hs4; have B4 := Lib.hid (B2.out.trans (hb4.mono Z2.out)); clear hA4 hs4 hb4))
    obtain ⟨s, hs⟩ : ∃ s, s = w.heap.size := ⟨_, rfl⟩
    obtain ⟨bt, hbt⟩ : ∃ bt, bt = w2.heap.size := ⟨_, rfl⟩
    have hz2 := Z2.out
    have hs4 := S4.out
    have C0 := Lib.hid (show w4.cell? ⟨s, 0, none⟩ = some (.slice none 0 0) from (B4.out.cell (p := ⟨s, 0, none⟩) (show s < w.heap.size + 1 + 1 by omega)).trans (by
      rw [hs, World.cell?_of_block (w := w.alloc _) (Below.heap_alloc _ _ _ (by simp))]; simp))
    have C1 := Lib.hid (show w4.cell? ⟨s + 1, 0, none⟩ = some (.bool false) from (B4.out.cell (p := ⟨s + 1, 0, none⟩) (show s + 1 < w.heap.size + 1 + 1 by omega)).trans (by
      rw [hs]; have := World.cell?_alloc_new (w.alloc (.cells #[.slice none 0 0] 24)) #[.bool false] 4 0; simp))
    have F0 := Lib.hid (show w4.frozen? ⟨s, 0, none⟩ = false by
      rw [World.frozen?_of_block (w := (w.alloc _).alloc _) (B4.out.block s (by omega)), hs, World.frozen?_of_block (w := w.alloc _) (Below.heap_alloc _ _ _ (by simp))]; simp)
    have F1 := Lib.hid (show w4.frozen? ⟨s + 1, 0, none⟩ = false by
      rw [World.frozen?_of_block (w := (w.alloc _).alloc _) (B4.out.block (s + 1) (by omega)), hs]; simp)
    have BB := Lib.hid (show Below s w w4 by
      rw [hs]; exact (below_alloc (below_alloc (Below.refl _ w) _) _).trans (B4.out.mono (by omega)))
    have A5 := Lib.hid (show ArrAt w4 bt 58 25 (rateF n L Z) by rw [hbt]; exact A4.out)
    have hsw : s ≤ w4.heap.size := by omega
    have hsb : s + 2 ≤ bt := by omega
    rw [← hs, ← hbt]
    have HS := Lib.hid hs
    clear hs hbt hz2 hs4
    clear Z2 S4 B4 A4 B2 hA2
    refine wp_seq (gf := 104) (lb := #[.pointer (some ⟨bt, 0, none⟩)]) (tI := 3) rfl (enters_of Try.func104 (by kernel_rfl) rfl) rfl (R := fun k => k = bt) (LL := gaining n Z)
      (by rw [← gainL_gaining HR.out]; exact seq_gaining n bt _ w4 HK.out hn2 A5.out) (fun k => k < s + 2) (fun k hk => by subst hk; exact ⟨fun h => by omega, A5.out.lt⟩)
      (fun V pre Wx => V = (fun k => k < s + 2) ∧ pre = [] ∧ Below s w Wx ∧ Wx.cell? ⟨s, 0, none⟩ = some (.slice none 0 0) ∧ Wx.frozen? ⟨s, 0, none⟩ = false ∧ Wx.cell? ⟨s + 1, 0, none⟩ = some (.bool false) ∧ Wx.frozen? ⟨s + 1, 0, none⟩ = false)
      (FirstX s 3 w)
      ?cI ?cIx ⟨rfl, rfl, BB.out, C0.out, F0.out, C1.out, F1.out⟩
      (fun v a' _ => a' = { tmps := #[.slice a n c, undef, .pointer (some ⟨s, 0, none⟩), .pointer (some ⟨s + 1, 0, none⟩), .pointer (some ⟨w0.heap.size, 0, none⟩), .bool true, v, .tuple #[.agg (cellsV 25 (rateF n L Z)), .bool true], .slice a n c, .tuple #[.agg (cellsV 25 (rateF n L Z)), .bool true], .agg (cellsV 25 (rateF n L Z)), .bool true, .bool true, .bool false, .agg (cellsV 25 (rateF n L Z)), .func (.func 104) #[] #[.pointer (some ⟨bt, 0, none⟩)], v, undef], defers := [] })
      (fun v a' W l r o h _ => h) ?assign ?body ?done ?stop
    case cI =>
      constructor
      · rintro V pre Wx ⟨rfl, _, h1, h2, h3, h4, h5⟩ k hk
        have := World.block_lt_of_cell? _ _ h4
        exact Nat.lt_of_le_of_lt (Nat.le_of_lt_succ hk) this
      · rintro V pre A B ⟨rfl, rfl, h1, h2, h3, h4, h5⟩ hin
        exact ⟨rfl, rfl, below_inside h1 hin (fun k hk => show k < s + 2 by omega), hin.cell (p := ⟨s, 0, none⟩) (show s < s + 2 by omega) h2, (frozen_inside hin (p := ⟨s, 0, none⟩) (show s < s + 2 by omega)).trans h3, hin.cell (p := ⟨s + 1, 0, none⟩) (show s + 1 < s + 2 by omega) h4, (frozen_inside hin (p := ⟨s + 1, 0, none⟩) (show s + 1 < s + 2 by omega)).trans h5⟩
    case cIx =>
      intro c'
      constructor
      · rintro V pre Wx ⟨rfl, D, g, cap, rfl, rfl, h0, h1, h2, h3, h4⟩ k (hk | hk)
        · have := World.block_lt_of_cell? _ _ h3
          exact Nat.lt_of_le_of_lt (Nat.le_of_lt_succ hk) this
        · subst hk; exact (owns_cap h4).2.2
      · rintro V pre A B ⟨rfl, D, g, cap, rfl, rfl, h0, h1, h2, h3, h4⟩ hin
        exact ⟨rfl, D, g, cap, rfl, rfl, h0, below_inside h1 hin (fun k hk => .inl (by omega)), hin.cell (p := ⟨s, 0, none⟩) (.inl (show s < s + 2 by omega)) h2, hin.cell (p := ⟨s + 1, 0, none⟩) (.inl (show s + 1 < s + 2 by omega)) h3, owns_at h4 (hin.block g (.inr rfl))⟩
    case assign =>
      intro l' v Wx K hK
      gi_wp2
      exact hK _ _ (Outside.refl _ _) rfl
    case body =>
      rintro l' V pre D gb cap a' Wx ⟨rfl, rfl, h1, h2, h3, h4, h5⟩ hpre hown hgb hV rfl
      have HB := Lib.hid h1
      have HO := Lib.hid hown
      have hg : s + 2 ≤ gb := by
        have : ¬ gb < s + 2 := hgb
        omega
      clear h1 hpre hown hgb hV
      gi_wp2
      refine ⟨?_, fun k => k < s + 2 ∨ k = gb, fun k hk => hk.elim .inl (fun h => .inr (.inl h)), ⟨rfl, D, gb, cap, rfl, rfl, hg, ?_, ?_, ?_, ?_⟩⟩
      · exact (Outside.of_grown (row := some s) (grownBy_setCell' _ _ _) (fun k hk => by cases hk; show s < s + 2; omega)).trans' (Outside.of_grown (V := fun k => k < s + 2) (row := some (s + 1)) (grownBy_setCell' _ _ _) (fun k hk => by cases hk; show s + 1 < s + 2; omega)) (fun _ _ h => h)
      · exact (HB.out.setCell (p := ⟨s, 0, none⟩) (Nat.le_refl _) _).setCell (p := ⟨s + 1, 0, none⟩) (by show s ≤ s + 1; omega) _
      · rw [World.cell?_of_block (Below.heap_setCell _ _ _ _ (show s ≠ s + 1 by omega))]
        exact World.cell?_setCell_same' _ _ _ (by rw [h2]; rfl)
      · exact World.cell?_setCell_same' _ _ _ (by rw [World.cell?_of_block (Below.heap_setCell _ _ _ _ (show s + 1 ≠ s by omega)), h4]; rfl)
      · exact owns_base (owns_at HO.out ((Below.heap_setCell _ _ _ _ (show gb ≠ s + 1 by omega)).trans (Below.heap_setCell _ _ _ _ (show gb ≠ s by omega)))) (by omega)
    case done =>
      rintro D V Wx hD hV hnD ⟨rfl, h0, h1, h2, h3, h4, h5⟩ hKD
      have E0 := Lib.hid (firstL_none HR.out (by rw [h0]; rfl))
      have E1 := Lib.hid (tt_no (show ¬ 0 < gainN n L Z by rw [T2.out, h0]; simp))
      have HB := Lib.hid h1
      have hDs : s + 2 ≤ D := by
        have : ¬ D < s + 2 := hnD
        omega
      clear h0 h1
      gi_wp2
      have hKD2 : ((Wx.setCell ⟨s, 0, none⟩ (.slice none 0 0)).setCell ⟨s + 1, 0, none⟩ (.bool false)).heap[D]? = some (.deferred (some [])) :=
        ((Below.heap_setCell _ _ _ _ (show D ≠ s + 1 by omega)).trans (Below.heap_setCell _ _ _ _ (show D ≠ s by omega))).trans hKD
      refine ⟨by simp, .inl ⟨_, _, rfl, run_takeDeferred hKD2, ?_⟩⟩
      refine ⟨_, results_cells rfl _ _ ⟨s, 0, none⟩ ⟨s + 1, 0, none⟩ (.slice none 0 0) (.bool false) _ _ rfl rfl Try.underlying24 rfl Try.underlying4 rfl ?_ ?_, none, 0, ?_, ?_, ?_, ?_⟩
      · rw [World.cell?_of_block (World.putObj_heap_other (show s ≠ D by omega)), World.cell?_of_block (Below.heap_setCell _ _ _ _ (show s ≠ s + 1 by omega))]
        exact World.cell?_setCell_same' _ _ _ (by rw [h2]; rfl)
      · rw [World.cell?_of_block (World.putObj_heap_other (show s + 1 ≠ D by omega))]
        exact World.cell?_setCell_same' _ _ _ (by rw [World.cell?_of_block (Below.heap_setCell _ _ _ _ (show s + 1 ≠ s by omega)), h4]; rfl)
      · rw [E0.out, E1.out]; rfl
      · rw [E0.out]; exact Nat.le_refl _
      · rw [E0.out]; exact .inl rfl
      · rw [← HS.out]
        refine below_inside (V := fun k => k < s + 2) ((HB.out.setCell (p := ⟨s, 0, none⟩) (Nat.le_refl _) _).setCell (p := ⟨s + 1, 0, none⟩) (by show s ≤ s + 1; omega) _) (Inside.putObj (V := fun k => k < s + 2) hnD _) (fun k hk => show k < s + 2 by omega)
    case stop =>
      rintro D c' V pre Wx hD hV hnD hpre ⟨rfl, D1, g, cap, rfl, rfl, h0, h1, h2, h3, h4⟩ hKD
      have E0 := Lib.hid (show firstL n L Z = D1 by rw [firstL_yes HR.out]; obtain ⟨z, hz⟩ := hpre; rw [← hz]; rfl)
      have E1 := Lib.hid (tt_of (show 0 < gainN n L Z by rw [T2.out]; have := hpre.length_le; simp at this; omega))
      have HB := Lib.hid h1
      have HO := Lib.hid h4
      have hDs : s + 2 ≤ D := by
        have : ¬ (D < s + 2 ∨ D = g) := hnD
        omega
      clear h1 h4
      gi_wp2
      refine ⟨by simp, .inl ⟨_, _, rfl, run_takeDeferred hKD, ?_⟩⟩
      refine ⟨_, results_cells rfl _ _ ⟨s, 0, none⟩ ⟨s + 1, 0, none⟩ (.slice (some ⟨g, 0, none⟩) D1.length cap) (.bool true) _ _ rfl rfl Try.underlying24 rfl Try.underlying4 rfl ?_ ?_, some ⟨g, 0, none⟩, cap, ?_, ?_, ?_, ?_⟩
      · rw [World.cell?_of_block (World.putObj_heap_other (show s ≠ D by omega))]; exact h2
      · rw [World.cell?_of_block (World.putObj_heap_other (show s + 1 ≠ D by omega))]; exact h3
      · rw [E0.out, E1.out]
      · rw [E0.out]; exact (owns_cap HO.out).1
      · rw [E0.out]
        rw [← HS.out]
        have := ownI_of_owns (lo := s) (owns_at HO.out (World.putObj_heap_other (w := Wx) (r := D) (o := .deferred none) (fun e => hnD (.inr e.symm)))) (Nat.le_refl _)
        simpa using this
      · rw [← HS.out]
        exact below_inside (V := fun k => k < s + 2 ∨ k = g) HB.out (Inside.putObj hnD _) (fun k hk => .inl (by omega))
  · have T1 := Lib.hid (tt_no hr)
    have T2 := Lib.hid (gainN_no hr)
    have E0 := Lib.hid (firstL_no hr)
    have E1 := Lib.hid (tt_no (show ¬ 0 < gainN n L Z by rw [T2.out]; omega))
    clear hr
    gi_wp2_with (first
      | (gi_at_call 52; refine (callsIn_wide.2 H1.out).mono ?_; rintro e w0 ⟨rfl, hb0⟩; rw [T1.out]; simp only [World.size_alloc] at hb0; have hz0 : w.heap.size + 1 + 1 ≤ w0.heap.size := by have := hb0.size; simpa using this)
      | ((with_reducible refine arrI_alloc 25 _ (Try.zeroRates _) ?_); intro w1 hA1 hs1 hb1; have S1 := Lib.hid hs1; clear hs1)
      | ((with_reducible refine arrI_store 25 _ _ _ _ _ _ (rateF n L Z) ?_ ?_ hA1 Try.sizeRates ?_); exact rfl; exact rfl; intro w2 hA2 hs2 ho2 hb2; clear hA1; have B2 := Lib.hid ((hb0.trans (hb1.mono hz0)).trans (hb2.mono hz0)); have Z2 := Lib.hid (show w.heap.size + 1 + 1 ≤ w2.heap.size by have := hb1.size; omega); have C0 := (B2.out.cell (p := ⟨w.heap.size, 0, none⟩) (show w.heap.size < w.heap.size + 1 + 1 by omega)).trans (show _ = some (.slice none 0 0) by rw [World.cell?_of_block (w := w.alloc _) (Below.heap_alloc _ _ _ (by simp))]; simp); have C1 := (B2.out.cell (p := ⟨w.heap.size + 1, 0, none⟩) (show w.heap.size + 1 < w.heap.size + 1 + 1 by omega)).trans (show _ = some (.bool false) by simp); have F0 : w2.frozen? ⟨w.heap.size, 0, none⟩ = false := (by rw [World.frozen?_of_block (w := (w.alloc _).alloc _) (B2.out.block w.heap.size (by omega)), World.frozen?_of_block (w := w.alloc _) (Below.heap_alloc _ _ _ (by simp))]; simp); have F1 : w2.frozen? ⟨w.heap.size + 1, 0, none⟩ = false := (by rw [World.frozen?_of_block (w := (w.alloc _).alloc _) (B2.out.block (w.heap.size + 1) (by omega))]; simp); clear hb0 hb1 hb2 hs2 ho2 hz0))
    refine ⟨_, results_cells rfl _ _ ⟨w.heap.size, 0, none⟩ ⟨w.heap.size + 1, 0, none⟩ (.slice none 0 0) (.bool false) _ _ rfl rfl Try.underlying24 rfl Try.underlying4 rfl ?_ ?_, none, 0, ?_, ?_, ?_, ?_⟩
    · rw [World.cell?_of_block (Below.heap_setCell _ _ _ _ (show w.heap.size ≠ w.heap.size + 1 by omega))]
      exact World.cell?_setCell_same' _ _ _ (by rw [C0]; rfl)
    · exact World.cell?_setCell_same' _ _ _ (by rw [World.cell?_of_block (Below.heap_setCell _ _ _ _ (show w.heap.size + 1 ≠ w.heap.size by omega)), C1]; rfl)
    · rw [E0.out, E1.out]; rfl
    · rw [E0.out]; exact Nat.le_refl _
    · rw [E0.out]; exact .inl rfl
    · exact ((((below_alloc (below_alloc (Below.refl _ w) _) _).trans (B2.out.mono (by omega))).setCell (p := ⟨w.heap.size, 0, none⟩) (Nat.le_refl _) _).setCell (p := ⟨w.heap.size + 1, 0, none⟩) (by show w.heap.size ≤ w.heap.size + 1; omega) _)

theorem rateFirst_ib (n c : Nat) (a : Option Addr) (A : Nat → Option Addr) (L C : Nat → Nat) (Z : Nat → Nat → Int) (w : World) (hn0 : n ≤ 1048576) (hL0 : ∀ r, r < n → L r ≤ 1048576) (ha0 : Tab w a n A L C Z) :
    Calls Try.prog 27 #[.slice a n c] w (RetIB (tt (0 < gainN n L Z)) (firstL n L Z).length (nth (firstL n L Z)) w) := by
  refine (rateFirst_any n c a A L C Z w hn0 hL0 ha0).mono ?_
  rintro e w' ⟨b, d, he, _, hO, hb⟩
  exact ⟨b, d, he, hO, hb⟩
theorem rateGains_any (n c : Nat) (a : Option Addr) (A : Nat → Option Addr) (L C : Nat → Nat) (Z : Nat → Nat → Int) (w : World) (hn0 : n ≤ 1048576) (hL0 : ∀ r, r < n → L r ≤ 1048576) (ha0 : Tab w a n A L C Z) :
    Calls Try.prog 22 #[.slice a n c] w fun e w' => e = .returned (.bool (tt (0 < gainN n L Z))) ∧ Below w.heap.size w w' := by
  have H1 := Lib.hid (rateFirst_any n c a A L C Z w hn0 hL0 ha0)
  clear hL0 ha0
  go_enter Try.func22, Try.ntmps22
  go_wp2_with (go_at_call 27; refine H1.out.mono ?_; rintro e w1 ⟨a1, c1, rfl, _, _, hb⟩)
  go_ret
  exact ⟨rfl, hb⟩
end Go.Proofs.Ytmjbocgoinfamaa
