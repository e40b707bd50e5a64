/- Texts joined: RateProofs, RateFirst, Lowest, RateFive, Has, Five, Change, RateStep, RateIn, PriceFind, ProofRate, DrawTab. -/
import Derived.Test.YtabdbgnkiebcdaaDoorPartR6
import Derived.Test.YtabdbgnkiebcdaaDoorPartR7
import Derived.Test.YtabdbgnkiebcdaaDoorPartR5
import Derived.Test.YtabdbgnkiebcdaaDoorProg
import Derived.Test.YtabdbgnkiebcdaaDoorPartR1
import Derived.Test.YtabdbgnkiebcdaaDoorPartR4
import Derived.IntWalk
import Derived.Test.YtabdbgnkiebcdaaDoorPartR2
import Derived.Lib.MinMax
namespace Go.Proofs.YtabdbgnkiebcdaaDoor
set_option linter.unusedVariables false
set_option linter.unusedSimpArgs false
open Go.RowKit

theorem results_box1 {P : Program} {fn : Func} {p : Tmp} {ty : TypeId} (h : fn.results = #[.cell p ty]) (tmps : Array Value) (w : World) (g : Nat) (t : TypeId) (cs : Array Value) (fr : Nat × Nat) (d : TypeDesc)
    (hp : tmps.getD p undef = .pointer (some ⟨g, 0, none⟩)) (hg : w.heap[g]? = some (.cells cs t fr)) (hu : P.underlying ty = some d) (hd : (match d with | .struct _ | .array _ _ => true | _ => false) = true) (hi : (P.info? ty).map (·.size) = some cs.size) :
    (results fn tmps).run P w = .ok (.agg cs) w := by
  have hp' : tmps[p]?.getD undef = .pointer (some ⟨g, 0, none⟩) := by simpa using hp
  simp [results, h, hp', asAddr, run_loadVar_row w g t ty cs fr d hg hu hd hi]

theorem Tryd.sizeProof : (Tryd.prog.info? 59).map (·.size) = some 3 := by kernel_rfl
set_option maxHeartbeats 1600000 in
theorem makesGain (F : Nat → Int) (w : World) : MakesAt 41 80 (.agg (cellsV 25 F)) gainsB w := by
  intro W1 a m c _
  go_enter Tryd.func41, Tryd.ntmps41
  have t1 : True := trivial
  go_wp2_with (first
    | (have _t := t1; (with_reducible refine arr_box 25 _ _ F ?_ ?_); exact rfl; clear t1; intro w1 hA1 hs1 hb1)
    | ((with_reducible refine arr_load 25 _ _ _ _ _ _ F ?_ (hA1.below hA1.lt (below_alloc (Below.refl _ w1) _)) Tryd.underlying52 Tryd.sizeRates ?_); exact rfl))
  refine bodyPost_ret (results_box1 Tryd.results41 _ _ (W1.heap.size + 1) 59 #[.string (strU gainsB), .slice a m c, .func (.func 80) #[.agg (cellsV 25 F)] #[]] (0, 0) _ rfl ?_ Tryd.underlying59 rfl Tryd.sizeProof) rfl ?_
  · rw [← hs1]; exact heap_alloc_last w1 _
  · exact ⟨rfl, below_alloc hb1 _⟩

set_option maxHeartbeats 1600000 in
theorem makesHold (F : Nat → Int) (w : World) : MakesAt 44 89 (.agg (cellsV 25 F)) holdsB w := by
  intro W1 a m c _
  go_enter Tryd.func44, Tryd.ntmps44
  have t1 : True := trivial
  go_wp2_with (first
    | (have _t := t1; (with_reducible refine arr_box 25 _ _ F ?_ ?_); exact rfl; clear t1; intro w1 hA1 hs1 hb1)
    | ((with_reducible refine arr_load 25 _ _ _ _ _ _ F ?_ (hA1.below hA1.lt (below_alloc (Below.refl _ w1) _)) Tryd.underlying52 Tryd.sizeRates ?_); exact rfl))
  refine bodyPost_ret (results_box1 Tryd.results44 _ _ (W1.heap.size + 1) 59 #[.string (strU holdsB), .slice a m c, .func (.func 89) #[.agg (cellsV 25 F)] #[]] (0, 0) _ rfl ?_ Tryd.underlying59 rfl Tryd.sizeProof) rfl ?_
  · rw [← hs1]; exact heap_alloc_last w1 _
  · exact ⟨rfl, below_alloc hb1 _⟩

theorem gains_table {n : Nat} {L : Nat → Nat} {Z : Nat → Nat → Int} {D : List Int} (h : IsRates n L Z) : (IsRing n D.length (nth D) ∧ p12 n < roundV n (atF (rateF n L Z)) D.length (nth D)) ↔ Gains n Z D := by
  unfold Gains
  constructor
  · rintro ⟨hr, hg⟩
    refine ⟨hr, ?_⟩
    have e : roundV n (atF (rateF n L Z)) D.length (nth D) = roundV n Z D.length (nth D) := valF_congr _ (fun j hj => by
      have h1 := closeF_in hr.1 j
      have h2 := closeF_in hr.1 (j + 1)
      exact atF_rate h (by omega) (by omega))
    rwa [e] at hg
  · rintro ⟨hr, hg⟩
    refine ⟨hr, ?_⟩
    have e : roundV n (atF (rateF n L Z)) D.length (nth D) = roundV n Z D.length (nth D) := valF_congr _ (fun j hj => by
      have h1 := closeF_in hr.1 j
      have h2 := closeF_in hr.1 (j + 1)
      exact atF_rate h (by omega) (by omega))
    rwa [e]

set_option maxHeartbeats 1600000 in
theorem showsGain (n : Nat) (L : Nat → Nat) (Z : Nat → Nat → Int) (w : World) (h : IsRates n L Z) : ShowsAt 80 (.agg (cellsV 25 (rateF n L Z))) (Gains n Z) w := by
  intro W1 a m c X _ hm hX ha
  have hK := Kept.of_rates h
  obtain ⟨F, hF⟩ : ∃ F, F = rateF n L Z := ⟨_, rfl⟩
  have G := gains_table (D := numsL m X) h
  rw [numsL_len, ← hF] at G
  rw [← hF] at hK ⊢
  have HK := Lib.hid hK
  have HA := Lib.hid (rd_nums ha)
  have hn2 := h.1.1
  obtain ⟨Y, hY⟩ : ∃ Y, Y = nth (numsL m X) := ⟨_, rfl⟩
  rw [← hY] at HA G
  by_cases hr : IsRing n m Y
  · have T1 := Lib.hid (tt_of hr)
    have HW := Lib.hid hr.1
    have E := Lib.hid (show tt (p12 n < roundV n (atF F) m Y) = tt (Gains n Z (numsL m X)) from tt_congr ⟨fun h => G.1 ⟨hr, h⟩, fun h => (G.2 h).2⟩)
    clear hF h hK ha hX hY hr G
    go_enter Tryd.func80, Tryd.ntmps80
    go_wp2_with (first
      | ((with_reducible refine arr_box 25 _ _ F ?_ ?_); exact rfl; intro w1 hA1 hs1 hb1; have B1 := Lib.hid hb1; have A1 := Lib.hid hA1; clear hs1 hb1 hA1)
      | ((with_reducible refine arr_load 25 _ _ _ _ _ _ F ?_ A1.out Tryd.underlying52 Tryd.sizeRates ?_); exact rfl)
      | (go_at_call 117; refine (hasRound_any n m c F a Y _ HK.out hm (HA.out.below (Nat.le_refl _) B1.out)).mono ?_; rintro e w2 ⟨rfl, hb2⟩; rw [T1.out]; have A2 := Lib.hid (A1.out.below A1.out.lt hb2); have B2 := Lib.hid (below_chain B1.out hb2); clear hb2)
      | ((with_reducible refine arr_load_g 25 _ _ _ _ _ _ _ _ ?_ ?_ A2.out Tryd.underlying52 Tryd.sizeRates ?_); exact rfl; exact rfl)
      | (go_at_call 108; refine (gainsBy_any n m c F a Y _ HK.out hn2 HW.out (HA.out.below (Nat.le_refl _) B2.out)).mono ?_; rintro e w3 ⟨rfl, hb3⟩; rw [E.out]; have B3 := Lib.hid (below_chain B2.out hb3); clear hb3))
    go_ret
    exact ⟨rfl, B3.out⟩
  · have T1 := Lib.hid (tt_no hr)
    have E := Lib.hid (tt_no (show ¬ Gains n Z (numsL m X) from fun h => hr (G.2 h).1))
    clear hF h hK ha hX hY hr G
    go_enter Tryd.func80, Tryd.ntmps80
    go_wp2_with (first
      | ((with_reducible refine arr_box 25 _ _ F ?_ ?_); exact rfl; intro w1 hA1 hs1 hb1; have B1 := Lib.hid hb1; have A1 := Lib.hid hA1; clear hs1 hb1 hA1)
      | ((with_reducible refine arr_load 25 _ _ _ _ _ _ F ?_ A1.out Tryd.underlying52 Tryd.sizeRates ?_); exact rfl)
      | (go_at_call 117; refine (hasRound_any n m c F a Y _ HK.out hm (HA.out.below (Nat.le_refl _) B1.out)).mono ?_; rintro e w2 ⟨rfl, hb2⟩; rw [T1.out]; have B2 := Lib.hid (below_chain B1.out hb2); clear hb2))
    go_ret
    exact ⟨by rw [E.out]; rfl, B2.out⟩

set_option maxHeartbeats 3200000 in
theorem showsHold (n : Nat) (L : Nat → Nat) (Z : Nat → Nat → Int) (w : World) (h : IsRates n L Z) : ShowsAt 89 (.agg (cellsV 25 (rateF n L Z))) (HoldQ n L Z) w := by
  intro W1 a m c X _ hm hX ha
  have hK := Kept.of_rates h
  have hq : HoldQ n L Z (numsL m X) ↔ HoldsOk n L Z m (nth (numsL m X)) := by unfold HoldQ; rw [numsL_len]
  have HA := Lib.hid (rd_nums ha)
  obtain ⟨Y, hY⟩ : ∃ Y, Y = nth (numsL m X) := ⟨_, rfl⟩
  rw [← hY] at HA hq
  obtain ⟨F, hF⟩ : ∃ F, F = rateF n L Z := ⟨_, rfl⟩
  have HK := Lib.hid hK
  by_cases hp : IsPrices m Y
  · have HP := Lib.hid hp
    have h5 := h.1.2
    have h2 := h.1.1
    have hm5 := hp.1.2
    by_cases hmn : m = n
    · subst hmn
      have e1 : ((m : Int) == (m : Int)) = true := by simp
      have e1n : (m == m) = true := by simp
      have E := Lib.hid (show tt (HoldsF m F Y) = tt (HoldQ m L Z (numsL m X)) from tt_congr (by
        rw [hq, hF]
        exact ⟨fun h' => ⟨⟨⟨h, hp⟩, rfl⟩, fun i hi k hk => by have := h' i hi k hk; rwa [atF_rate h hi hk] at this⟩, fun h' i hi k hk => by rw [atF_rate h hi hk]; exact h'.2 i hi k hk⟩))
      rw [← hF] at HK ⊢
      have RP := Lib.hid (fun (w1 : World) (hr : Rd w1 a m Y) => readPrices_yes m c a Y w1 hr hp)
      clear hF h hK ha hX hY hp hq
      have t1 : True := trivial
      go_enter Tryd.func89, Tryd.ntmps89
      go_wp2_with (first
        | ((with_reducible refine arr_box 25 _ _ F ?_ ?_); exact rfl; intro w1 hA1 hs1 hb1; have B1 := Lib.hid hb1; have A1 := Lib.hid hA1; clear hs1 hb1 hA1)
        | (go_at_call 124; refine (RP.out _ (HA.out.below (Nat.le_refl _) B1.out)).mono ?_; rintro e w2 ⟨rfl, hb2⟩; have A4 := Lib.hid ((A1.out.below A1.out.lt hb2).below (A1.out.below A1.out.lt hb2).lt (below_alloc (Below.refl _ w2) (.cells #[.slice a m c] 123))); have B4 := Lib.hid (below_alloc (below_chain B1.out hb2) (.cells #[.slice a m c] 123)); have P4 := Lib.hid (show BoxAt (w2.alloc (.cells #[.slice a m c] 123)) w2.heap.size 123 (.slice a m c) from heap_alloc_last w2 _); clear hb2)
        | (have _t := t1; (with_reducible refine arr_load_g 25 _ _ _ _ _ _ _ _ ?_ ?_ A4.out Tryd.underlying52 Tryd.sizeRates ?_); exact rfl; exact rfl; clear t1)
        | (go_at_call 107; refine (size_any m F _ HK.out).mono ?_; rintro e w5 ⟨rfl, hb5⟩; have P5 := Lib.hid (P4.out.below P4.out.lt hb5); have A5 := Lib.hid (A4.out.below A4.out.lt hb5); have B5 := Lib.hid (below_chain B4.out hb5); clear hb5)
        | ((with_reducible refine box_load_g _ _ _ _ _ _ _ ?_ ?_ P5.out Tryd.underlying123 rfl Tryd.sizePrices ?_); exact rfl; exact rfl)
        | ((with_reducible refine arr_load_g 25 _ _ _ _ _ _ _ _ ?_ ?_ A5.out Tryd.underlying52 Tryd.sizeRates ?_); exact rfl; exact rfl)
        | (go_at_call 125; refine (hold_any m c a Y _ _ HP.out HK.out (HA.out.below (Nat.le_refl _) B5.out)).mono ?_; rintro e w6 ⟨rfl, hb6⟩; rw [E.out]; have B6 := Lib.hid (below_chain B5.out hb6); clear hb6))
      go_ret
      exact ⟨rfl, B6.out⟩
    · have e1 : ((m : Int) == (n : Int)) = false := by simp; omega
      have e1n : (m == n) = false := by simpa using hmn
      have E := Lib.hid (tt_no (show ¬ HoldQ n L Z (numsL m X) from fun h' => hmn (hq.1 h').1.2.symm))
      rw [← hF] at HK ⊢
      have RP := Lib.hid (fun (w1 : World) (hr : Rd w1 a m Y) => readPrices_yes m c a Y w1 hr hp)
      clear hF h hK ha hX hY hp hq hmn
      go_enter Tryd.func89, Tryd.ntmps89
      go_wp2_with (first
        | ((with_reducible refine arr_box 25 _ _ F ?_ ?_); exact rfl; intro w1 hA1 hs1 hb1; have B1 := Lib.hid hb1; have A1 := Lib.hid hA1; clear hs1 hb1 hA1)
        | (go_at_call 124; refine (RP.out _ (HA.out.below (Nat.le_refl _) B1.out)).mono ?_; rintro e w2 ⟨rfl, hb2⟩; have A4 := Lib.hid ((A1.out.below A1.out.lt hb2).below (A1.out.below A1.out.lt hb2).lt (below_alloc (Below.refl _ w2) (.cells #[.slice a m c] 123))); have B4 := Lib.hid (below_alloc (below_chain B1.out hb2) (.cells #[.slice a m c] 123)); clear hb2)
        | ((with_reducible refine arr_load_g 25 _ _ _ _ _ _ _ _ ?_ ?_ A4.out Tryd.underlying52 Tryd.sizeRates ?_); exact rfl; exact rfl)
        | (go_at_call 107; refine (size_any n F _ HK.out).mono ?_; rintro e w5 ⟨rfl, hb5⟩; have B5 := Lib.hid (below_chain B4.out hb5); clear hb5))
      go_ret
      exact ⟨by rw [E.out]; rfl, B5.out⟩
  · have E := Lib.hid (tt_no (show ¬ HoldQ n L Z (numsL m X) from fun h' => hp (hq.1 h').1.1.2))
    rw [← hF] at HK ⊢
    have RP := Lib.hid (fun (w1 : World) (hr : Rd w1 a m Y) => readPrices_no m c a Y w1 hm hr hp)
    clear hF h hK ha hX hY hp hq
    go_enter Tryd.func89, Tryd.ntmps89
    go_wp2_with (first
      | ((with_reducible refine arr_box 25 _ _ F ?_ ?_); exact rfl; intro w1 hA1 hs1 hb1; have B1 := Lib.hid hb1; clear hs1 hb1 hA1)
      | (go_at_call 124; refine (RP.out _ (HA.out.below (Nat.le_refl _) B1.out)).mono ?_; rintro e w2 ⟨rfl, hb2⟩; have B4 := Lib.hid (below_alloc (below_chain B1.out hb2) (.cells #[.slice none 0 0] 123)); clear hb2))
    go_ret
    exact ⟨by rw [E.out]; rfl, B4.out⟩

end Go.Proofs.YtabdbgnkiebcdaaDoor

namespace Go.Proofs.YtabdbgnkiebcdaaDoor
set_option linter.unusedVariables false
set_option linter.unusedSimpArgs false
open Go.RowKit
attribute [local go_sem] Oper.semAt_some wide_fn wide_round_fn

/-- What the round leaves that hands back the first list. -/
def FirstX (s tI : Nat) (w : World) (c' : Code) (V : Nat → Prop) (pre : List (List Int)) (Wx : World) : Prop :=
  c' = .ret ∧ ∃ D g cap, pre = [D] ∧ V = (fun k => k < s + 2 ∨ k = g) ∧ s + 2 ≤ g ∧ Below s w Wx ∧ Wx.cell? ⟨s, 0, none⟩ = some (.slice (some ⟨g, 0, none⟩) D.length cap) ∧ Wx.cell? ⟨s + 1, 0, none⟩ = some (.bool true) ∧
    Wx.ownsRow s tI 1 (.slice (some ⟨g, 0, none⟩) D.length cap) D.length (cellsD D)

set_option maxRecDepth 100000 in
set_option maxHeartbeats 2000000 in
theorem rateFirst_any (n c : Nat) (a : Option Addr) (A : Nat → Option Addr) (L C : Nat → Nat) (Z : Nat → Nat → Int) (w : World) (hn0 : n ≤ 1048576) (hL0 : ∀ r, r < n → L r ≤ 1048576) (ha0 : Tab w a n A L C Z) :
    Calls Tryd.prog 40 #[.slice a n c] w (RetID (tt (0 < gainN n L Z)) (firstL n L Z).length (nth (firstL n L Z)) w) := by
  have H1 := Lib.hid (readRates_any n c a A L C Z ((w.alloc (.cells #[.slice none 0 0] 32)).alloc (.cells #[.bool false] 4)) hn0 hL0 (ha0.below (Nat.le_refl _) (below_alloc (below_alloc (Below.refl _ w) _) _)))
  clear hL0 ha0
  refine (callsIn_wide (n := 9)).1 ?_
  refine callsIn_of_wp_marks Tryd.func40 rfl trivial ?_ rfl
  simp only [Tryd.ntmps40, List.size_toArray, List.length_cons, List.length_nil, Nat.reduceAdd, Nat.reduceSub, Array.replicate_succ, Array.replicate_zero, List.push_toArray, List.append_toArray, List.nil_append, List.cons_append]
  by_cases hr : IsRates n L Z
  · have T1 := Lib.hid (tt_of hr)
    have T2 := Lib.hid (gainN_yes hr)
    have HR := Lib.hid hr
    have HK := Lib.hid (Kept.of_rates hr)
    have hn2 := hr.1.1
    have hn5 := hr.1.2
    clear hr
    gi_wp2_with (first
      | (gi_at_call 39; refine (callsIn_wide.2 H1.out).mono ?_; rintro e w0 ⟨rfl, hb0⟩; rw [T1.out]; simp only [World.size_alloc] at hb0; have hz0 : w.heap.size + 1 + 1 ≤ w0.heap.size := by have := hb0.size; simpa using this)
      | ((with_reducible refine arrI_alloc 25 _ (Tryd.zeroRates _) ?_); intro w1 hA1 hs1 hb1; have S1 := Lib.hid hs1; clear hs1)
      | ((with_reducible refine arrI_store 25 _ _ _ _ _ _ (rateF n L Z) ?_ ?_ hA1 Tryd.sizeRates ?_); exact rfl; exact rfl; intro w2 hA2 hs2 ho2 hb2; clear hA1; have B2 := Lib.hid ((hb0.trans (hb1.mono hz0)).trans (hb2.mono hz0)); have Z2 := Lib.hid (show w.heap.size + 1 + 1 ≤ w2.heap.size by have := hb1.size; omega); clear hb0 hb1 hb2 hs2 ho2 hz0)
      | ((with_reducible refine arrI_load 25 _ _ _ _ _ _ _ ?_ hA2 Tryd.underlying52 Tryd.sizeRates ?_); exact rfl)
      | (gi_at_call 63; refine (callsIn_wide.2 (gaining_any _ _)).mono ?_; rintro e w4 ⟨rfl, hA4, hs4, hb4⟩; have A4 := Lib.hid hA4; have S4 := Lib.hid hs4; have B4 := Lib.hid (B2.out.trans (hb4.mono Z2.out)); clear hA4 hs4 hb4))
    obtain ⟨s, hs⟩ : ∃ s, s = w.heap.size := ⟨_, rfl⟩
    obtain ⟨bt, hbt⟩ : ∃ bt, bt = w2.heap.size := ⟨_, rfl⟩
    have hz2 := Z2.out
    have hs4 := S4.out
    have C0 := Lib.hid (show w4.cell? ⟨s, 0, none⟩ = some (.slice none 0 0) from (B4.out.cell (p := ⟨s, 0, none⟩) (show s < w.heap.size + 1 + 1 by omega)).trans (by
      rw [hs, World.cell?_of_block (w := w.alloc _) (Below.heap_alloc _ _ _ (by simp))]; simp))
    have C1 := Lib.hid (show w4.cell? ⟨s + 1, 0, none⟩ = some (.bool false) from (B4.out.cell (p := ⟨s + 1, 0, none⟩) (show s + 1 < w.heap.size + 1 + 1 by omega)).trans (by
      rw [hs]; have := World.cell?_alloc_new (w.alloc (.cells #[.slice none 0 0] 32)) #[.bool false] 4 0; simp))
    have F0 := Lib.hid (show w4.frozen? ⟨s, 0, none⟩ = false by
      rw [World.frozen?_of_block (w := (w.alloc _).alloc _) (B4.out.block s (by omega)), hs, World.frozen?_of_block (w := w.alloc _) (Below.heap_alloc _ _ _ (by simp))]; simp)
    have F1 := Lib.hid (show w4.frozen? ⟨s + 1, 0, none⟩ = false by
      rw [World.frozen?_of_block (w := (w.alloc _).alloc _) (B4.out.block (s + 1) (by omega)), hs]; simp)
    have BB := Lib.hid (show Below s w w4 by
      rw [hs]; exact (below_alloc (below_alloc (Below.refl _ w) _) _).trans (B4.out.mono (by omega)))
    have A5 := Lib.hid (show ArrAt w4 bt 52 25 (rateF n L Z) by rw [hbt]; exact A4.out)
    have hsw : s ≤ w4.heap.size := by omega
    have hsb : s + 2 ≤ bt := by omega
    rw [← hs, ← hbt]
    have HS := Lib.hid hs
    clear hs hbt hz2 hs4
    clear Z2 S4 B4 A4 B2 hA2
    refine wp_seq (gf := 105) (lb := #[.pointer (some ⟨bt, 0, none⟩)]) (tI := 3) rfl (enters_of Tryd.func105 (by kernel_rfl) rfl) rfl (R := fun k => k = bt) (LL := gaining n Z)
      (by rw [← gainL_gaining HR.out]; exact seq_gaining n bt _ w4 HK.out hn2 A5.out) (fun k => k < s + 2) (fun k hk => by subst hk; exact ⟨fun h => by omega, A5.out.lt⟩)
      (fun V pre Wx => V = (fun k => k < s + 2) ∧ pre = [] ∧ Below s w Wx ∧ Wx.cell? ⟨s, 0, none⟩ = some (.slice none 0 0) ∧ Wx.frozen? ⟨s, 0, none⟩ = false ∧ Wx.cell? ⟨s + 1, 0, none⟩ = some (.bool false) ∧ Wx.frozen? ⟨s + 1, 0, none⟩ = false)
      (FirstX s 3 w)
      ?cI ?cIx ⟨rfl, rfl, BB.out, C0.out, F0.out, C1.out, F1.out⟩
      (fun v a' _ => a' = { tmps := #[.slice a n c, undef, .pointer (some ⟨s, 0, none⟩), .pointer (some ⟨s + 1, 0, none⟩), .pointer (some ⟨w0.heap.size, 0, none⟩), .bool true, v, .tuple #[.agg (cellsV 25 (rateF n L Z)), .bool true], .slice a n c, .tuple #[.agg (cellsV 25 (rateF n L Z)), .bool true], .agg (cellsV 25 (rateF n L Z)), .bool true, .bool true, .bool false, .agg (cellsV 25 (rateF n L Z)), .func (.func 105) #[] #[.pointer (some ⟨bt, 0, none⟩)], v, undef], defers := [] })
      (fun v a' W l r o h _ => h) ?assign ?body ?done ?stop
    case cI =>
      constructor
      · rintro V pre Wx ⟨rfl, _, h1, h2, h3, h4, h5⟩ k hk
        have := World.block_lt_of_cell? _ _ h4
        exact Nat.lt_of_le_of_lt (Nat.le_of_lt_succ hk) this
      · rintro V pre A B ⟨rfl, rfl, h1, h2, h3, h4, h5⟩ hin
        exact ⟨rfl, rfl, below_inside h1 hin (fun k hk => show k < s + 2 by omega), hin.cell (p := ⟨s, 0, none⟩) (show s < s + 2 by omega) h2, (frozen_inside hin (p := ⟨s, 0, none⟩) (show s < s + 2 by omega)).trans h3, hin.cell (p := ⟨s + 1, 0, none⟩) (show s + 1 < s + 2 by omega) h4, (frozen_inside hin (p := ⟨s + 1, 0, none⟩) (show s + 1 < s + 2 by omega)).trans h5⟩
    case cIx =>
      intro c'
      constructor
      · rintro V pre Wx ⟨rfl, D, g, cap, rfl, rfl, h0, h1, h2, h3, h4⟩ k (hk | hk)
        · have := World.block_lt_of_cell? _ _ h3
          exact Nat.lt_of_le_of_lt (Nat.le_of_lt_succ hk) this
        · subst hk; exact (owns_cap h4).2.2
      · rintro V pre A B ⟨rfl, D, g, cap, rfl, rfl, h0, h1, h2, h3, h4⟩ hin
        exact ⟨rfl, D, g, cap, rfl, rfl, h0, below_inside h1 hin (fun k hk => .inl (by omega)), hin.cell (p := ⟨s, 0, none⟩) (.inl (show s < s + 2 by omega)) h2, hin.cell (p := ⟨s + 1, 0, none⟩) (.inl (show s + 1 < s + 2 by omega)) h3, owns_at h4 (hin.block g (.inr rfl))⟩
    case assign =>
      intro l' v Wx K hK
      gi_wp2
      exact hK _ _ (Outside.refl _ _) rfl
    case body =>
      rintro l' V pre D gb cap a' Wx ⟨rfl, rfl, h1, h2, h3, h4, h5⟩ hpre hown hgb hV rfl
      have HB := Lib.hid h1
      have HO := Lib.hid hown
      have hg : s + 2 ≤ gb := by
        have : ¬ gb < s + 2 := hgb
        omega
      clear h1 hpre hown hgb hV
      gi_wp2
      refine ⟨?_, fun k => k < s + 2 ∨ k = gb, fun k hk => hk.elim .inl (fun h => .inr (.inl h)), ⟨rfl, D, gb, cap, rfl, rfl, hg, ?_, ?_, ?_, ?_⟩⟩
      · exact (Outside.of_grown (row := some s) (grownBy_setCell' _ _ _) (fun k hk => by cases hk; show s < s + 2; omega)).trans' (Outside.of_grown (V := fun k => k < s + 2) (row := some (s + 1)) (grownBy_setCell' _ _ _) (fun k hk => by cases hk; show s + 1 < s + 2; omega)) (fun _ _ h => h)
      · exact (HB.out.setCell (p := ⟨s, 0, none⟩) (Nat.le_refl _) _).setCell (p := ⟨s + 1, 0, none⟩) (by show s ≤ s + 1; omega) _
      · rw [World.cell?_of_block (Below.heap_setCell _ _ _ _ (show s ≠ s + 1 by omega))]
        exact World.cell?_setCell_same' _ _ _ (by rw [h2]; rfl)
      · exact World.cell?_setCell_same' _ _ _ (by rw [World.cell?_of_block (Below.heap_setCell _ _ _ _ (show s + 1 ≠ s by omega)), h4]; rfl)
      · exact owns_base (owns_at HO.out ((Below.heap_setCell _ _ _ _ (show gb ≠ s + 1 by omega)).trans (Below.heap_setCell _ _ _ _ (show gb ≠ s by omega)))) (by omega)
    case done =>
      rintro D V Wx hD hV hnD ⟨rfl, h0, h1, h2, h3, h4, h5⟩ hKD
      have E0 := Lib.hid (firstL_none HR.out (by rw [h0]; rfl))
      have E1 := Lib.hid (tt_no (show ¬ 0 < gainN n L Z by rw [T2.out, h0]; simp))
      have HB := Lib.hid h1
      have hDs : s + 2 ≤ D := by
        have : ¬ D < s + 2 := hnD
        omega
      clear h0 h1
      gi_wp2
      have hKD2 : ((Wx.setCell ⟨s, 0, none⟩ (.slice none 0 0)).setCell ⟨s + 1, 0, none⟩ (.bool false)).heap[D]? = some (.deferred (some [])) :=
        ((Below.heap_setCell _ _ _ _ (show D ≠ s + 1 by omega)).trans (Below.heap_setCell _ _ _ _ (show D ≠ s by omega))).trans hKD
      refine ⟨by simp, .inl ⟨_, _, rfl, run_takeDeferred hKD2, ?_⟩⟩
      refine ⟨_, results_cells rfl _ _ ⟨s, 0, none⟩ ⟨s + 1, 0, none⟩ (.slice none 0 0) (.bool false) _ _ rfl rfl Tryd.underlying32 rfl Tryd.underlying4 rfl ?_ ?_, none, 0, ?_, ?_, ?_, ?_⟩
      · rw [World.cell?_of_block (World.putObj_heap_other (show s ≠ D by omega)), World.cell?_of_block (Below.heap_setCell _ _ _ _ (show s ≠ s + 1 by omega))]
        exact World.cell?_setCell_same' _ _ _ (by rw [h2]; rfl)
      · rw [World.cell?_of_block (World.putObj_heap_other (show s + 1 ≠ D by omega))]
        exact World.cell?_setCell_same' _ _ _ (by rw [World.cell?_of_block (Below.heap_setCell _ _ _ _ (show s + 1 ≠ s by omega)), h4]; rfl)
      · rw [E0.out, E1.out]; rfl
      · rw [E0.out]; exact Nat.le_refl _
      · rw [E0.out]; exact .inl rfl
      · rw [← HS.out]
        refine below_inside (V := fun k => k < s + 2) ((HB.out.setCell (p := ⟨s, 0, none⟩) (Nat.le_refl _) _).setCell (p := ⟨s + 1, 0, none⟩) (by show s ≤ s + 1; omega) _) (Inside.putObj (V := fun k => k < s + 2) hnD _) (fun k hk => show k < s + 2 by omega)
    case stop =>
      rintro D c' V pre Wx hD hV hnD hpre ⟨rfl, D1, g, cap, rfl, rfl, h0, h1, h2, h3, h4⟩ hKD
      have E0 := Lib.hid (show firstL n L Z = D1 by rw [firstL_yes HR.out]; obtain ⟨z, hz⟩ := hpre; rw [← hz]; rfl)
      have E1 := Lib.hid (tt_of (show 0 < gainN n L Z by rw [T2.out]; have := hpre.length_le; simp at this; omega))
      have HB := Lib.hid h1
      have HO := Lib.hid h4
      have hDs : s + 2 ≤ D := by
        have : ¬ (D < s + 2 ∨ D = g) := hnD
        omega
      clear h1 h4
      gi_wp2
      refine ⟨by simp, .inl ⟨_, _, rfl, run_takeDeferred hKD, ?_⟩⟩
      refine ⟨_, results_cells rfl _ _ ⟨s, 0, none⟩ ⟨s + 1, 0, none⟩ (.slice (some ⟨g, 0, none⟩) D1.length cap) (.bool true) _ _ rfl rfl Tryd.underlying32 rfl Tryd.underlying4 rfl ?_ ?_, some ⟨g, 0, none⟩, cap, ?_, ?_, ?_, ?_⟩
      · rw [World.cell?_of_block (World.putObj_heap_other (show s ≠ D by omega))]; exact h2
      · rw [World.cell?_of_block (World.putObj_heap_other (show s + 1 ≠ D by omega))]; exact h3
      · rw [E0.out, E1.out]
      · rw [E0.out]; exact (owns_cap HO.out).1
      · rw [E0.out]
        rw [← HS.out]
        have := ownI_of_owns (lo := s) (owns_at HO.out (World.putObj_heap_other (w := Wx) (r := D) (o := .deferred none) (fun e => hnD (.inr e.symm)))) (Nat.le_refl _)
        simpa using this
      · rw [← HS.out]
        exact below_inside (V := fun k => k < s + 2 ∨ k = g) HB.out (Inside.putObj hnD _) (fun k hk => .inl (by omega))
  · have T1 := Lib.hid (tt_no hr)
    have T2 := Lib.hid (gainN_no hr)
    have E0 := Lib.hid (firstL_no hr)
    have E1 := Lib.hid (tt_no (show ¬ 0 < gainN n L Z by rw [T2.out]; omega))
    clear hr
    gi_wp2_with (first
      | (gi_at_call 39; refine (callsIn_wide.2 H1.out).mono ?_; rintro e w0 ⟨rfl, hb0⟩; rw [T1.out]; simp only [World.size_alloc] at hb0; have hz0 : w.heap.size + 1 + 1 ≤ w0.heap.size := by have := hb0.size; simpa using this)
      | ((with_reducible refine arrI_alloc 25 _ (Tryd.zeroRates _) ?_); intro w1 hA1 hs1 hb1; have S1 := Lib.hid hs1; clear hs1)
      | ((with_reducible refine arrI_store 25 _ _ _ _ _ _ (rateF n L Z) ?_ ?_ hA1 Tryd.sizeRates ?_); exact rfl; exact rfl; intro w2 hA2 hs2 ho2 hb2; clear hA1; have B2 := Lib.hid ((hb0.trans (hb1.mono hz0)).trans (hb2.mono hz0)); have Z2 := Lib.hid (show w.heap.size + 1 + 1 ≤ w2.heap.size by have := hb1.size; omega); have C0 := (B2.out.cell (p := ⟨w.heap.size, 0, none⟩) (show w.heap.size < w.heap.size + 1 + 1 by omega)).trans (show _ = some (.slice none 0 0) by rw [World.cell?_of_block (w := w.alloc _) (Below.heap_alloc _ _ _ (by simp))]; simp); have C1 := (B2.out.cell (p := ⟨w.heap.size + 1, 0, none⟩) (show w.heap.size + 1 < w.heap.size + 1 + 1 by omega)).trans (show _ = some (.bool false) by simp); have F0 : w2.frozen? ⟨w.heap.size, 0, none⟩ = false := (by rw [World.frozen?_of_block (w := (w.alloc _).alloc _) (B2.out.block w.heap.size (by omega)), World.frozen?_of_block (w := w.alloc _) (Below.heap_alloc _ _ _ (by simp))]; simp); have F1 : w2.frozen? ⟨w.heap.size + 1, 0, none⟩ = false := (by rw [World.frozen?_of_block (w := (w.alloc _).alloc _) (B2.out.block (w.heap.size + 1) (by omega))]; simp); clear hb0 hb1 hb2 hs2 ho2 hz0))
    refine ⟨_, results_cells rfl _ _ ⟨w.heap.size, 0, none⟩ ⟨w.heap.size + 1, 0, none⟩ (.slice none 0 0) (.bool false) _ _ rfl rfl Tryd.underlying32 rfl Tryd.underlying4 rfl ?_ ?_, none, 0, ?_, ?_, ?_, ?_⟩
    · rw [World.cell?_of_block (Below.heap_setCell _ _ _ _ (show w.heap.size ≠ w.heap.size + 1 by omega))]
      exact World.cell?_setCell_same' _ _ _ (by rw [C0]; rfl)
    · exact World.cell?_setCell_same' _ _ _ (by rw [World.cell?_of_block (Below.heap_setCell _ _ _ _ (show w.heap.size + 1 ≠ w.heap.size by omega)), C1]; rfl)
    · rw [E0.out, E1.out]; rfl
    · rw [E0.out]; exact Nat.le_refl _
    · rw [E0.out]; exact .inl rfl
    · exact ((((below_alloc (below_alloc (Below.refl _ w) _) _).trans (B2.out.mono (by omega))).setCell (p := ⟨w.heap.size, 0, none⟩) (Nat.le_refl _) _).setCell (p := ⟨w.heap.size + 1, 0, none⟩) (by show w.heap.size ≤ w.heap.size + 1; omega) _)

theorem rateFirst_ib (n c : Nat) (a : Option Addr) (A : Nat → Option Addr) (L C : Nat → Nat) (Z : Nat → Nat → Int) (w : World) (hn0 : n ≤ 1048576) (hL0 : ∀ r, r < n → L r ≤ 1048576) (ha0 : Tab w a n A L C Z) :
    Calls Tryd.prog 40 #[.slice a n c] w (RetIB (tt (0 < gainN n L Z)) (firstL n L Z).length (nth (firstL n L Z)) w) := by
  refine (rateFirst_any n c a A L C Z w hn0 hL0 ha0).mono ?_
  rintro e w' ⟨b, d, he, _, hO, hb⟩
  exact ⟨b, d, he, hO, hb⟩
theorem rateGains_any (n c : Nat) (a : Option Addr) (A : Nat → Option Addr) (L C : Nat → Nat) (Z : Nat → Nat → Int) (w : World) (hn0 : n ≤ 1048576) (hL0 : ∀ r, r < n → L r ≤ 1048576) (ha0 : Tab w a n A L C Z) :
    Calls Tryd.prog 86 #[.slice a n c] w fun e w' => e = .returned (.bool (tt (0 < gainN n L Z))) ∧ Below w.heap.size w w' := by
  have H1 := Lib.hid (rateFirst_any n c a A L C Z w hn0 hL0 ha0)
  clear hL0 ha0
  go_enter Tryd.func86, Tryd.ntmps86
  go_wp2_with (go_at_call 40; refine H1.out.mono ?_; rintro e w1 ⟨a1, c1, rfl, _, _, hb⟩)
  go_ret
  exact ⟨rfl, hb⟩
end Go.Proofs.YtabdbgnkiebcdaaDoor

namespace Go.Proofs.YtabdbgnkiebcdaaDoor
set_option linter.unusedVariables false
open Go.RowKit

set_option maxHeartbeats 1600000 in
theorem divisor_any6 (m c : Nat) (a : Option Addr) (X : Nat → Int) (w : World) (hm : m ≤ 6) (ha : Rd w a m X) (hX : ∀ k, k < m → 1 ≤ X k ∧ X k ≤ 1000000000000000000) :
    Calls Tryd.prog 122 #[.slice a m c] w fun e w' => e = .returned (.int .i64 (gcdT X m : Nat)) ∧ ∃ q, w' = w.drewN q := by
  have HA := Lib.hid ha
  have HX := Lib.hid hX
  clear ha hX
  go_enter Tryd.func122, Tryd.ntmps122
  go_wp2
  go_loopw [3, 5, 8] (fun d _ s wi => ∃ k : Nat, k ≤ m ∧ s = .int .i64 k ∧ d = .int .i64 (gcdT X k : Nat) ∧ ∃ q, wi = w.drewN q) (fun _ _ s _ => m - (intOf s).toNat)
  case atStart => exact ⟨0, Nat.zero_le _, rfl, rfl, 0, rfl⟩
  case round =>
    obtain ⟨k, hk, rfl, rfl, q, rfl⟩ := hrel
    have hle := gcdT_le (M := 1000000000000000000) k (fun j hj => HX.out j (by omega))
    obtain ⟨D, hD⟩ : ∃ D, D = gcdT X k := ⟨_, rfl⟩
    rw [← hD] at hle ⊢
    have QD := Lib.hid hD
    clear hD
    by_cases hlt : k < m
    · obtain ⟨ba, oa, rfl, hca⟩ := HA.out k hlt
      obtain ⟨x, hx⟩ := Int.eq_ofNat_of_zero_le (show 0 ≤ X k by have := (HX.out k hlt).1; omega)
      have hx18 : x ≤ 1000000000000000000 := by have := (HX.out k hlt).2; omega
      rw [hx] at hca
      have QX := Lib.hid hx
      have QG := Lib.hid (show gcdT X (k + 1) = Nat.gcd D x by show Nat.gcd (gcdT X k) (X k).toNat = _; rw [hx, ← QD.out]; rfl)
      clear hx
      go_wp2
      go_loopw [3, 5] (fun d y wi => ∃ a b : Nat, d = .int .i64 a ∧ y = .int .i64 b ∧ Nat.gcd a b = Nat.gcd D x ∧ a ≤ 1000000000000000000 ∧ b ≤ 1000000000000000000 ∧ ∃ q, wi = w.drewN q) (fun _ y _ => (intOf y).toNat)
      case atStart => exact ⟨D, x, rfl, rfl, rfl, hle, hx18, _, rfl⟩
      case round =>
        obtain ⟨a, b, rfl, rfl, he, ha, hb, q, rfl⟩ := hrel
        have HE := Lib.hid he
        clear he
        by_cases hb0 : 0 < b
        · have hd : ((b : Int) != 0) = true := by simp; omega
          have hml := Nat.mod_lt a hb0
          have hz : ((b : Int) == 0) = false := by simp; omega
          have hz2 : ¬ (b : Int) = 0 := by omega
          have hm1 : (a : Int).tmod (b : Int) = ((a % b : Nat) : Int) := by rw [Int.tmod_eq_emod_of_nonneg (by omega), Int.natCast_emod]
          have hm2 : IntKind.i64.wrap ((a % b : Nat) : Int) = ((a % b : Nat) : Int) := IntWalk.i64_in _ (by omega)
          have HM := Lib.hid hml
          clear hml
          go_wp2
          go_quiet (fail)
          go_wp2
          clear hm1 hm2 hz hz2
          go_roundw
          case rel =>
            refine ⟨b, a % b, rfl, ?_, ?_, hb, ?_, ?_⟩
            · first | rfl | (rw [Int.natCast_emod])
            · rw [gcd_turn]; exact HE.out
            · have := HM.out; omega
            · first | exact ⟨_, rfl⟩ | exact ⟨q + nq, by rw [World.drewN_drewN]⟩
          case measure =>
            first
              | exact HM.out
              | (show ((a : Int) % (b : Int)).toNat < ((b : Nat) : Int).toNat; rw [← Int.natCast_emod]; exact HM.out)
        · obtain rfl : b = 0 := by omega
          have hd : (((0 : Nat) : Int) != 0) = false := by decide
          have HG := Lib.hid (show a = gcdT X (k + 1) by rw [QG.out, ← HE.out]; exact (Nat.gcd_zero_right a).symm)
          clear hd
          go_wp2
          go_roundw
          case rel =>
            exact ⟨k + 1, by omega, by go_num, by rw [← HG.out], _, rfl⟩
          case measure => simp [intOf]; omega
    · obtain rfl : k = m := by omega
      go_wp2
      go_ret
      exact ⟨by rw [← QD.out]; rfl, _, rfl⟩

theorem divisor_any (m c : Nat) (a : Option Addr) (X : Nat → Int) (w : World) (hm : m ≤ 5) (ha : Rd w a m X) (hX : ∀ k, k < m → 1 ≤ X k ∧ X k ≤ 1000000000000000000) :
    Calls Tryd.prog 122 #[.slice a m c] w fun e w' => e = .returned (.int .i64 (gcdT X m : Nat)) ∧ ∃ q, w' = w.drewN q := divisor_any6 m c a X w (by omega) ha hX

set_option maxHeartbeats 400000 in
theorem cloneM_any (m c : Nat) (a : Option Addr) (X : Nat → Int) (w : World) (hm1 : 1 ≤ m) (hm : m ≤ 1048576) (ha : Rd w a m X) :
    Calls Tryd.prog 123 #[.slice a m c] w (RetList 3 m X w) := by
  obtain ⟨ba, oa, rfl, hlt, hc0⟩ := ha.lt (show 0 < m by omega)
  obtain ⟨i0, hi, hz0, hz1, hz2⟩ := info_parts Tryd.infoInt
  have hnil := fun (w : World) (a : Option Addr) (n c n' c' : Nat) => Lib.run_eql_slice_nil (P := Tryd.prog) w 103 3 a n c n' c' Tryd.underlying103
  have HA := Lib.hid ha
  clear ha hc0
  go_enter Tryd.func123, Tryd.ntmps123
  go_wp2_with (at_builtin; refine wpList_append_grows _ (by rfl) (.tmp 5) (.tmp 6) 103 (by rfl) 3 i0 (.int .i64 0) 1 8 Tryd.underlying103 hi hz0 hz1 hz2 (by rfl) (by decide) _ 0 0 [] (by rfl) (fun h => by cases h) (by rfl) (fun _ _ j u h => absurd h (by simp)) ⟨ba, oa, none⟩ m c (cellsL m X) (by rfl) ((cellsL_length m X).trans (Nat.mul_one m).symm) (HA.out.news (by repeat (first | exact Below.refl _ _ | refine Below.drew ?_ | refine below_alloc ?_ _))) (cellsL_one m X) (by omega) (by unfold maxLen; omega) (by omega) ?_; intro v1 w1 hown0 hgrow1; simp only [Nat.zero_add, List.nil_append] at hown0)
  obtain ⟨h1, (⟨he, h0⟩ | ⟨g, cap, cur, rfl, hg, hr⟩)⟩ := hown0
  · omega
  · have hB : Below w.heap.size w w1 := (below_alloc (Below.refl w.heap.size w) _).grown hgrow1 (by simp) (fun k h => by cases h)
    go_ret
    exact ⟨g, cap, rfl, ⟨h1, .inr ⟨g, cap, cur, rfl, by simp at hg; omega, hr⟩⟩, hB⟩

set_option maxHeartbeats 1600000 in
theorem lowest_any6 (m c : Nat) (a : Option Addr) (X : Nat → Int) (w : World) (hm1 : 1 ≤ m) (hm : m ≤ 6) (ha : Rd w a m X) (hX : ∀ k, k < m → 1 ≤ X k ∧ X k ≤ 1000000000000000000) :
    Calls Tryd.prog 88 #[.slice a m c] w (RetI m (leastF X m) w) := by
  have HA := Lib.hid ha
  have HX := Lib.hid hX
  have hpos := gcdT_pos (X := X) hm1 (fun j hj => (hX j hj).1)
  have hle := gcdT_le (M := 1000000000000000000) m hX
  have HL := Lib.hid (show ∀ j, X j / ((gcdT X m : Nat) : Int) = leastF X m j from fun j => rfl)
  obtain ⟨D, hD⟩ : ∃ D, D = gcdT X m := ⟨_, rfl⟩
  rw [← hD] at hle hpos
  have QD := Lib.hid hD
  clear ha hX hD
  go_enter Tryd.func88, Tryd.ntmps88
  go_wp2_with (first
    | (go_at_call 122; refine (divisor_any6 m c a X _ hm HA.out HX.out).mono ?_; rintro e w1 ⟨rfl, q, rfl⟩; rw [← QD.out])
    | (go_at_call 123; refine (cloneM_any m c a X _ hm1 (by omega) (HA.out.drewN q)).mono ?_; rintro e w2 ⟨g, cap, rfl, hown, hb2⟩; have hgl := hown.lt g rfl; have hcap := (owns_cap hown).1; have HO := Lib.hid (OwnR.of_owns hown); have B2 := Lib.hid ((below_drewN (Below.refl w.heap.size w) q).trans hb2); clear hown hb2))
  have hg1 : w.heap.size ≤ g := hgl.1
  have hg2 := hgl.2
  clear hgl
  go_loopw [5, 12] (fun _ s wr => ∃ k : Nat, k ≤ m ∧ s = .int .i64 k ∧ OwnR wr g (some ⟨g, 0, none⟩) m (fun j => if j < k then leastF X m j else X j) ∧ wr.heap.size = w2.heap.size ∧ Below w.heap.size w wr) (fun _ s _ => m - (intOf s).toNat)
  case atStart => exact ⟨0, Nat.zero_le _, rfl, HO.out.congr (fun k _ => by rw [if_neg (Nat.not_lt_zero _)]), rfl, B2.out⟩
  case round =>
    obtain ⟨k, hk, rfl, hO, hsz, hB⟩ := hrel
    clear HO B2
    by_cases hlt : k < m
    · have hc := hO.at hlt
      rw [if_neg (Nat.lt_irrefl k)] at hc
      have hc1 := hc.1
      have hc2 := hc.2
      have hx1 := (HX.out k hlt).1
      have hx2 := (HX.out k hlt).2
      have hq1 : 0 ≤ X k / (D : Int) := Int.ediv_nonneg (by omega) (by omega)
      have hq2 : X k / (D : Int) ≤ X k := Int.ediv_le_self _ (by omega)
      have HO := Lib.hid hO
      have HB := Lib.hid hB
      have HS := Lib.hid hsz
      clear hO hB hsz hc
      go_wp2
      go_roundw
      case rel =>
        refine ⟨k + 1, by omega, by go_num, (HO.out.set hlt (X k / (D : Int))).congr (fun j hj => ?_), ?_, HB.out.setCell (by show w.heap.size ≤ g; omega) _⟩
        · by_cases e : j = k
          · subst e
            rw [if_pos rfl, if_pos (Nat.lt_succ_self _), ← HL.out j, QD.out]
          · rw [if_neg e]
            by_cases h : j < k
            · rw [if_pos h, if_pos (by omega)]
            · rw [if_neg h, if_neg (by omega)]
        · rw [← HS.out]; simp [World.setCell]
      case measure => simp [intOf]; omega
    · obtain rfl : k = m := by omega
      have HO := Lib.hid hO
      have HB := Lib.hid hB
      have HS := Lib.hid hsz
      clear hO hB hsz
      go_wp2
      go_ret
      exact ⟨_, _, rfl, ⟨hg1, by rw [HS.out]; exact hg2, hcap⟩, HO.out.congr (fun j hj => by rw [if_pos hj]), HB.out⟩
theorem lowest_any (m c : Nat) (a : Option Addr) (X : Nat → Int) (w : World) (hm1 : 1 ≤ m) (hm : m ≤ 5) (ha : Rd w a m X) (hX : ∀ k, k < m → 1 ≤ X k ∧ X k ≤ 1000000000000000000) :
    Calls Tryd.prog 88 #[.slice a m c] w (RetI m (leastF X m) w) := lowest_any6 m c a X w hm1 (by omega) ha hX

end Go.Proofs.YtabdbgnkiebcdaaDoor

namespace Go.Proofs.YtabdbgnkiebcdaaDoor
set_option linter.unusedVariables false
open Go.RowKit

theorem rate_five {n : Nat} {L : Nat → Nat} {Z : Nat → Nat → Int} (h : IsRates n L Z) (x y : Nat) (hx : x < 5) (hy : y < 5) : 0 ≤ atF (rateF n L Z) x y ∧ atF (rateF n L Z) x y ≤ 144 := by
  have e1 : (x * 5 + y) / 5 = x := by omega
  have e2 : (x * 5 + y) % 5 = y := by omega
  unfold atF
  rw [← rateF_yes h, e1, e2]
  by_cases hn : x < n ∧ y < n
  · rw [if_pos hn]
    have := ((h.2 x hn.1).2 y hn.2).1
    omega
  · rw [if_neg hn]; decide
theorem rate_none {n : Nat} {L : Nat → Nat} {Z : Nat → Nat → Int} (h : IsRates n L Z) (x y : Nat) (hx : x < 5) (hy : y < 5) (hn : n ≤ x ∨ n ≤ y) : atF (rateF n L Z) x y = 0 := by
  have e1 : (x * 5 + y) / 5 = x := by omega
  have e2 : (x * 5 + y) % 5 = y := by omega
  unfold atF
  rw [← rateF_yes h, e1, e2, if_neg (by omega)]
end Go.Proofs.YtabdbgnkiebcdaaDoor

namespace Go.Proofs.YtabdbgnkiebcdaaDoor
set_option linter.unusedVariables false
open Go.RowKit

set_option maxHeartbeats 800000 in
theorem has_any (n : Nat) (F : Nat → Int) (x : Int) (w : World) (h : Kept n F) :
    Calls Tryd.prog 120 #[.agg (cellsV 25 F), .int .i64 x] w fun e w' => e = .returned (.bool (tt (InR x 0 (n - 1)))) ∧ Below w.heap.size w w' := by
  have H := Lib.hid h
  clear h
  by_cases h0 : 0 ≤ x
  · have hd : decide (0 ≤ x) = true := by simpa using h0
    have hiff := tt_congr (show InR x 0 ((n : Int) - 1) ↔ x < (n : Int) from ⟨fun h => by have := h.2; omega, fun h => ⟨h0, by omega⟩⟩)
    have hdec : decide (x < (n : Int)) = tt (x < (n : Int)) := by
      by_cases h : x < (n : Int)
      · rw [tt_of h]; simpa using h
      · rw [tt_no h]; simpa using h
    have E := Lib.hid (hiff.trans hdec.symm)
    clear hiff hdec
    go_enter Tryd.func120, Tryd.ntmps120
    go_wp2_with (first
      | ((with_reducible refine arr_box 25 _ _ F ?_ ?_); exact rfl; intro w1 hA1 hs1 hb1; have S1 := Lib.hid hs1; clear hs1)
      | ((with_reducible refine arr_load_g 25 _ _ _ _ _ _ _ _ ?_ ?_ hA1 Tryd.underlying52 Tryd.sizeRates ?_); exact rfl; exact rfl)
      | (go_at_call 107; refine (size_any n F _ H.out).mono ?_; rintro e w2 ⟨rfl, hb2⟩))
    go_ret
    exact ⟨by rw [E.out]; rfl, hb1.trans (hb2.mono hb1.size)⟩
  · have hd : decide (0 ≤ x) = false := by simpa using h0
    have E := Lib.hid (tt_no (show ¬ InR x 0 ((n : Int) - 1) from fun h => h0 h.1))
    go_enter Tryd.func120, Tryd.ntmps120
    go_wp2_with (first
      | ((with_reducible refine arr_box 25 _ _ F ?_ ?_); exact rfl; intro w1 hA1 hs1 hb1; have S1 := Lib.hid hs1; clear hs1)
      | ((with_reducible refine arr_load_g 25 _ _ _ _ _ _ _ _ ?_ ?_ hA1 Tryd.underlying52 Tryd.sizeRates ?_); exact rfl; exact rfl))
    go_ret
    exact ⟨by rw [E.out]; rfl, hb1⟩
end Go.Proofs.YtabdbgnkiebcdaaDoor

namespace Go.Proofs.YtabdbgnkiebcdaaDoor
set_option linter.unusedVariables false
open Go.RowKit

theorem Tryd.zeroFive (w : World) : (zeroValue 50).run Tryd.prog w = .ok (.agg (cellsV 5 fun _ => 0)) w := by kernel_rfl
theorem Tryd.sizeFive : (Tryd.prog.info? 50).map (·.size) = some 5 := by kernel_rfl
theorem Tryd.sizeInt : (Tryd.prog.info? 3).map (·.size) = some 1 := by kernel_rfl
end Go.Proofs.YtabdbgnkiebcdaaDoor

namespace Go.Proofs.YtabdbgnkiebcdaaDoor
set_option linter.unusedVariables false
open Go.RowKit

set_option maxHeartbeats 1600000 in
theorem change_any (F H : Nat → Int) (w : World) (hF : ∀ x y, x < 5 → y < 5 → 0 ≤ atF F x y ∧ atF F x y ≤ 144) (hH : ∀ x, x < 5 → 0 ≤ H x ∧ H x ≤ 61917364224) :
    Calls Tryd.prog 121 #[.agg (cellsV 25 F), .agg (cellsV 5 H)] w fun e w' => e = .returned (.agg (cellsV 5 fun y => rmax (fun x => H x * atF F x y) 5)) ∧ Below w.heap.size w w' := by
  have HF := Lib.hid hF
  have HH := Lib.hid hH
  clear hF hH
  have t1 : True := trivial
  have t2 : True := trivial
  go_enter Tryd.func121, Tryd.ntmps121
  go_wp2_with (first
    | ((with_reducible refine arr_box 25 _ _ F ?_ ?_); exact rfl; intro w1 hA1 hs1 hb1; have S1 := Lib.hid hs1; clear hs1)
    | ((with_reducible refine arr_box 5 _ _ H ?_ ?_); exact rfl; intro w2 hA2 hs2 hb2; have S2 := Lib.hid hs2; clear hs2)
    | (have _t := t1; (with_reducible refine arr_alloc 5 _ (Tryd.zeroFive _) ?_); clear t1; intro w3 hA3 hs3 hb3; have S3 := Lib.hid hs3; clear hs3)
    | (have _t := t2; (with_reducible refine arr_alloc 5 _ (Tryd.zeroFive _) ?_); clear t2; intro w4 hA4 hs4 hb4; have S4 := Lib.hid hs4; clear hs4)
    | ((with_reducible refine arr_load 5 _ _ _ _ _ _ _ ?_ (hA2.below hA2.lt (below_chain hb3 hb4)) Tryd.underlying50 Tryd.sizeFive ?_); exact rfl))
  obtain ⟨G4, hG4⟩ : ∃ G, G = w2.heap.size := ⟨_, rfl⟩
  obtain ⟨G5, hG5⟩ : ∃ G, G = w3.heap.size := ⟨_, rfl⟩
  have e1 : w1.heap.size = w.heap.size + 1 := S1.out
  have e2 : w2.heap.size = w1.heap.size + 1 := S2.out
  have e3 : w3.heap.size = w2.heap.size + 1 := S3.out
  have hB := below_chain (below_chain (below_chain hb1 hb2) hb3) hb4
  have hA1' := (hA1.below hA1.lt (below_chain (below_chain hb2 hb3) hb4))
  have hA3' := hA3.below hA3.lt hb4
  have n1 : w.heap.size < G4 := by omega
  have n2 : G4 < G5 := by omega
  rw [← hG4] at hA3' ⊢
  rw [← hG5] at hA4 ⊢
  have R1 := Lib.hid hA1'
  have R4 := Lib.hid hA3'
  have R5 := Lib.hid (hA4.congr (G := nextF (atF F) H 0 0) (fun y _ => nextF_start _ _ y))
  have RB := Lib.hid hB
  clear hA1 hA2 hA3 hA4 hb1 hb2 hb3 hb4 hA1' hA3' hB S1 S2 S3 S4 e1 e2 e3 hG4 hG5
  go_loopw [6, 7, 8, 9, 11] (fun _ _ _ _ i wr => ∃ p : Nat, p ≤ 5 ∧ i = .int .i64 p ∧ ArrAt wr w.heap.size 52 25 F ∧ ArrAt wr G4 50 5 (fun _ => 0) ∧ ArrAt wr G5 50 5 (nextF (atF F) H p 0) ∧ Below w.heap.size w wr) (fun _ _ _ _ i _ => 5 - (intOf i).toNat)
  case atStart => exact ⟨0, by omega, rfl, R1.out, R4.out, R5.out, RB.out⟩
  case round =>
    obtain ⟨p, hp, rfl, h1, h4, h5, hb⟩ := hrel
    clear R1 R4 R5 RB
    have R1 := Lib.hid h1
    have R4 := Lib.hid h4
    have R5 := Lib.hid h5
    have RB := Lib.hid hb
    clear h4 h5 hb
    by_cases hlt : p < 5
    · have hd : decide ((p : Int) < 5) = true := by simp; omega
      go_wp2_with (first
        | ((with_reducible refine arr_index 5 _ _ _ _ H .i64 p ?_ ?_ hlt Tryd.underlying50 Tryd.underlying3 Tryd.sizeInt ?_); exact rfl; exact rfl)
        | ((with_reducible refine arr_load_mid 25 5 _ _ _ _ (p * 5) _ _ F ?_ h1 ?_ Tryd.underlying50 Tryd.sizeFive ?_); exact rfl; omega))
      clear h1
      go_loopw [8, 9, 18] (fun _ _ i wi => ∃ q : Nat, q ≤ 5 ∧ i = .int .i64 q ∧ ArrAt wi w.heap.size 52 25 F ∧ ArrAt wi G4 50 5 (fun _ => 0) ∧ ArrAt wi G5 50 5 (nextF (atF F) H p q) ∧ Below w.heap.size w wi) (fun _ _ i _ => 5 - (intOf i).toNat)
      case atStart => exact ⟨0, by omega, rfl, R1.out, R4.out, R5.out, RB.out⟩
      case round =>
        obtain ⟨q, hq, rfl, h1, h4, h5, hb⟩ := hrel
        clear R1 R4 R5 RB
        by_cases hqlt : q < 5
        · have hd2 : decide ((q : Int) < 5) = true := by simp; omega
          have hc5 := h5.cell hqlt
          have hf5 := h5.frozen q
          have hpb := prod_bound (HH.out p hlt) (HF.out p q hlt hqlt)
          have hmul : wrap64 (H p * atF F p q) = H p * atF F p q := IntWalk.wrap64_in _ ⟨by omega, by omega⟩
          have R1 := Lib.hid h1
          have R4 := Lib.hid h4
          have R5 := Lib.hid h5
          have RB := Lib.hid hb
          clear h1 h4 h5 hb
          go_wp2_with ((with_reducible refine arr_index 5 _ _ _ _ (atF F p) .i64 q ?_ ?_ hqlt Tryd.underlying50 Tryd.underlying3 Tryd.sizeInt ?_); exact rfl; exact rfl)
          go_roundw
          case rel =>
            refine ⟨q + 1, by omega, by go_num, R1.out.setOther (by show w.heap.size ≠ G5; omega) _, R4.out.setOther (by show G4 ≠ G5; omega) _, (R5.out.set q _).congr (fun y _ => nextF_step _ _ _ _ _), RB.out.setCell (by show w.heap.size ≤ G5; omega) _⟩
          case measure => simp [intOf]; omega
        · have hd2 : decide ((q : Int) < 5) = false := by simp; omega
          obtain rfl : q = 5 := by omega
          have R1 := Lib.hid h1
          have R4 := Lib.hid h4
          have R5 := Lib.hid h5
          have RB := Lib.hid hb
          clear h1 h4 h5 hb
          go_wp2
          go_roundw
          case rel => exact ⟨p + 1, by omega, by go_num, R1.out, R4.out, R5.out.congr (fun y hy => nextF_row _ _ _ _ _ hy), RB.out⟩
          case measure => simp [intOf]; omega
    · have hd : decide ((p : Int) < 5) = false := by simp; omega
      obtain rfl : p = 5 := by omega
      have h5 := R5.out
      have h4 := R4.out
      go_wp2_with (first
        | ((with_reducible refine arr_load 5 _ _ _ _ _ _ _ ?_ h5 Tryd.underlying50 Tryd.sizeFive ?_); exact rfl)
        | ((with_reducible refine arr_store 5 _ _ _ _ _ _ (nextF (atF F) H 5 0) ?_ ?_ h4 Tryd.sizeFive ?_); exact rfl; exact rfl; intro w9 hA9 hs9 ho9 hb9; clear h4))
      refine bodyPost_ret (v := .agg (cellsV 5 fun y => rmax (fun x => H x * atF F x y) 5)) ?_ rfl ⟨rfl, RB.out.trans (hb9.mono (by omega))⟩
      exact results_arr Tryd.results121 _ _ G4 50 5 _ _ _ rfl (hA9.congr fun y _ => rfl) Tryd.underlying50 Tryd.sizeFive
end Go.Proofs.YtabdbgnkiebcdaaDoor

namespace Go.Proofs.YtabdbgnkiebcdaaDoor
set_option linter.unusedVariables false
open Go.RowKit

set_option maxHeartbeats 1600000 in
theorem rateStep_any (n c : Nat) (a : Option Addr) (A : Nat → Option Addr) (L C : Nat → Nat) (Z : Nat → Nat → Int) (i k : Int) (w : World) (hn0 : n ≤ 1048576) (hL0 : ∀ r, r < n → L r ≤ 1048576) (ha0 : Tab w a n A L C Z) (hx1 : I64 i) (hx2 : I64 k) :
    Calls Tryd.prog 87 #[.slice a n c, .int .i64 i, .int .i64 k] w fun e w' => e = .returned (.tuple #[.int .i64 (stepAns n L Z i k), .bool (tt (TwoOk n L Z i k))]) ∧ Below w.heap.size w w' := by
  have H1 := Lib.hid (readRates_any n c a A L C Z w hn0 hL0 ha0)
  clear hL0 ha0
  by_cases hr : IsRates n L Z
  · have T1 := Lib.hid (tt_of hr)
    have HK := Lib.hid (Kept.of_rates hr)
    have HR := Lib.hid hr
    have hn5 := hr.1.2
    have hn2 := hr.1.1
    clear hr
    by_cases h1 : InR i 0 ((n : Int) - 1)
    · have T2 := Lib.hid (tt_of h1)
      by_cases h2 : InR k 0 ((n : Int) - 1)
      · have T3 := Lib.hid (tt_of h2)
        have hok : TwoOk n L Z i k := ⟨HR.out, h1, h2⟩
        have T4 := Lib.hid (tt_of hok)
        have T5 := Lib.hid (stepAns_yes hok)
        obtain ⟨x, hx⟩ := Int.eq_ofNat_of_zero_le h1.1
        obtain ⟨y, hy⟩ := Int.eq_ofNat_of_zero_le h2.1
        subst hx hy
        have hxn : x < n := by have := h1.2; omega
        have hyn : y < n := by have := h2.2; omega
        clear h1 h2 hok hx1 hx2
        have t1 : True := trivial
        have t2 : True := trivial
        go_enter Tryd.func87, Tryd.ntmps87
        go_wp2_with (first
          | (go_at_call 39; refine H1.out.mono ?_; rintro e w0 ⟨rfl, hb0⟩; rw [T1.out])
          | ((with_reducible refine arr_alloc 25 _ (Tryd.zeroRates _) ?_); intro w1 hA1 hs1 hb1; have S1 := Lib.hid hs1; clear hs1)
          | ((with_reducible refine arr_store 25 _ _ _ _ _ _ (rateF n L Z) ?_ ?_ hA1 Tryd.sizeRates ?_); exact rfl; exact rfl; intro w2 hA2 hs2 ho2 hb2; clear hA1; have B2 := Lib.hid ((hb0.trans (hb1.mono hb0.size)).trans (hb2.mono hb0.size)); clear hb0 hb1 hb2 hs2 ho2)
          | ((with_reducible refine arr_load_g 25 _ _ _ _ _ _ _ _ ?_ ?_ hA2 Tryd.underlying52 Tryd.sizeRates ?_); exact rfl; exact rfl)
          | (have _t := t1; go_at_call 120; refine (has_any n _ _ _ HK.out).mono ?_; clear t1; rintro e w3 ⟨rfl, hb3⟩; rw [T2.out]; have hA3 := hA2.below hA2.lt hb3; clear hA2; have hA2 := hA3; clear hA3; have B3 := Lib.hid (B2.out.trans (hb3.mono B2.out.size)); clear hb3)
          | (have _t := t2; go_at_call 120; refine (has_any n _ _ _ HK.out).mono ?_; clear t2; rintro e w4 ⟨rfl, hb4⟩; rw [T3.out]; have hA4 := hA2.below hA2.lt hb4; clear hA2; have hA2 := hA4; clear hA4; have B4 := Lib.hid (B3.out.trans (hb4.mono B3.out.size)); clear hb4)
          | ((with_reducible refine arr_alloc 5 _ (Tryd.zeroFive _) ?_); intro w5 hA5 hs5 hb5; have S5 := Lib.hid hs5; clear hs5; have C5 := hA5.cell (show x < 5 by omega); have F5 := hA5.frozen x)
          | ((with_reducible refine arr_load 25 _ _ _ 52 _ w0.heap.size (rateF n L Z) ?_ ?_ Tryd.underlying52 Tryd.sizeRates ?_); exact rfl; exact (hA2.below hA2.lt hb5).setOther (Nat.ne_of_lt hA2.lt) _)
          | (go_at_call 107; refine (size_any n _ _ HK.out).mono ?_; rintro e w6 ⟨rfl, hb6⟩))
        have hw04 := hA2.lt
        have hT := ((hA2.below hA2.lt hb5).setOther (Nat.ne_of_lt hA2.lt) (v := .int .i64 1) (a := ⟨w4.heap.size, x, none⟩)).below (by rw [show (w5.setCell ⟨w4.heap.size, x, none⟩ (.int .i64 1)).heap.size = w5.heap.size from by simp [World.setCell]]; rw [S5.out]; omega) hb6
        have hV := ((hA5.set x 1).below (by rw [show (w5.setCell ⟨w4.heap.size, x, none⟩ (.int .i64 1)).heap.size = w5.heap.size from by simp [World.setCell]]; rw [S5.out]; omega) hb6).congr (G := stepV (atF (rateF n L Z)) 5 x 0) (fun y _ => rfl)
        have hB := (B4.out.trans ((hb5.mono (Nat.le_refl _)).mono B4.out.size)).trans ((Below.setCell (Below.refl w4.heap.size w5) (p := ⟨w4.heap.size, x, none⟩) (Nat.le_refl _) (.int .i64 1)).mono B4.out.size |>.trans (hb6.mono (by have h1 := B4.out.size; have h2 := hb5.size; rw [show (w5.setCell ⟨w4.heap.size, x, none⟩ (.int .i64 1)).heap.size = w5.heap.size from by simp [World.setCell]]; omega)))
        have R1 := Lib.hid hT
        have R2 := Lib.hid hV
        have R3 := Lib.hid hB
        have hw4 := B4.out.size
        clear hA2 hA5 hb5 hb6 hT hV hB S1 B2 B3 B4 S5 C5 F5
        go_loopw [35] (fun s wr => ∃ q : Nat, q + 1 ≤ n ∧ s = .int .i64 q ∧ ArrAt wr w0.heap.size 52 25 (rateF n L Z) ∧ ArrAt wr w4.heap.size 50 5 (stepV (atF (rateF n L Z)) 5 x q) ∧ Below w.heap.size w wr) (fun s _ => n - (intOf s).toNat)
        case atStart => exact ⟨0, by omega, rfl, R1.out, R2.out, R3.out⟩
        case round =>
          obtain ⟨q, hq, rfl, hT, hV, hB⟩ := hrel
          clear R1 R2 R3
          by_cases hlt : q + 1 < n
          · have hbd := Lib.hid (fun z (hz : z < 5) => stepV_bound (T := atF (rateF n L Z)) (n := 5) (i := x) (fun x y hx hy => rate_five HR.out x y hx hy) q z (by omega) hz)
            have hd : decide ((q : Int) < (n : Int) - 1) = true := by simp; omega
            go_wp2_with (first
              | ((with_reducible refine arr_load 25 _ _ _ _ _ _ _ ?_ hT Tryd.underlying52 Tryd.sizeRates ?_); exact rfl)
              | ((with_reducible refine arr_load 5 _ _ _ _ _ _ _ ?_ hV Tryd.underlying50 Tryd.sizeFive ?_); exact rfl)
              | (go_at_call 121; refine (change_any _ _ _ (rate_five HR.out) hbd.out).mono ?_; rintro e w7 ⟨rfl, hb7⟩; have hV7 := hV.below hV.lt hb7; have hT7 := hT.below hT.lt hb7; have hB7 := hB.trans (hb7.mono hB.size); clear hV hT hB hb7)
              | ((with_reducible refine arr_store 5 _ _ _ _ _ _ (stepV (atF (rateF n L Z)) 5 x (q + 1)) ?_ ?_ hV7 Tryd.sizeFive ?_); exact rfl; exact rfl; intro w8 hV8 hs8 ho8 hb8; have hT8 := hT7.of_block (ho8 w0.heap.size (Nat.ne_of_lt hw04)); have hB8 := hB7.trans (hb8.mono hw4); clear hV7 hT7 hB7 hs8 ho8 hb8; have R1 := Lib.hid hT8; have R2 := Lib.hid hV8; have R3 := Lib.hid hB8; clear hT8 hV8 hB8))
            go_roundw
            case rel => exact ⟨q + 1, by omega, by go_num, R1.out, R2.out, R3.out⟩
            case measure => simp [intOf]; omega
          · have hqn : q = n - 1 := by omega
            have hd : decide ((q : Int) < (n : Int) - 1) = false := by simp; omega
            have hfive := (stepV_five (T := atF (rateF n L Z)) (U := Z) (n := n) (i := x) hn5 hxn (fun x y hx hy => atF_rate HR.out hx hy) (rate_none HR.out) q y (by omega)).1 hyn
            have hc := hV.cell (show y < 5 by omega)
            rw [hfive, hqn] at hc
            have R3 := Lib.hid hB
            clear hT hV hB hqn hfive
            go_wp2
            go_ret2
            exact ⟨by rw [T4.out, T5.out]; rfl, R3.out⟩
      · have T3 := Lib.hid (tt_no h2)
        have T4 := Lib.hid (tt_no (show ¬ TwoOk n L Z i k from fun h => h2 h.2.2))
        have T5 := Lib.hid (stepAns_no (show ¬ TwoOk n L Z i k from fun h => h2 h.2.2))
        clear h1 h2 hx1 hx2
        have t1 : True := trivial
        have t2 : True := trivial
        go_enter Tryd.func87, Tryd.ntmps87
        go_wp2_with (first
          | (go_at_call 39; refine H1.out.mono ?_; rintro e w0 ⟨rfl, hb0⟩; rw [T1.out])
          | ((with_reducible refine arr_alloc 25 _ (Tryd.zeroRates _) ?_); intro w1 hA1 hs1 hb1; have S1 := Lib.hid hs1; clear hs1)
          | ((with_reducible refine arr_store 25 _ _ _ _ _ _ (rateF n L Z) ?_ ?_ hA1 Tryd.sizeRates ?_); exact rfl; exact rfl; intro w2 hA2 hs2 ho2 hb2; clear hA1; have B2 := Lib.hid ((hb0.trans (hb1.mono hb0.size)).trans (hb2.mono hb0.size)); clear hb0 hb1 hb2 hs2 ho2)
          | ((with_reducible refine arr_load_g 25 _ _ _ _ _ _ _ _ ?_ ?_ hA2 Tryd.underlying52 Tryd.sizeRates ?_); exact rfl; exact rfl)
          | (have _t := t1; go_at_call 120; refine (has_any n _ _ _ HK.out).mono ?_; clear t1; rintro e w3 ⟨rfl, hb3⟩; rw [T2.out]; have hA3 := hA2.below hA2.lt hb3; clear hA2; have hA2 := hA3; clear hA3; have B3 := Lib.hid (B2.out.trans (hb3.mono B2.out.size)); clear hb3)
          | (have _t := t2; go_at_call 120; refine (has_any n _ _ _ HK.out).mono ?_; clear t2; rintro e w4 ⟨rfl, hb4⟩; rw [T3.out]; have hA4 := hA2.below hA2.lt hb4; clear hA2; have hA2 := hA4; clear hA4; have B4 := Lib.hid (B3.out.trans (hb4.mono B3.out.size)); clear hb4))
        go_ret2
        exact ⟨by rw [T4.out, T5.out]; rfl, B4.out⟩
    · have T2 := Lib.hid (tt_no h1)
      have T4 := Lib.hid (tt_no (show ¬ TwoOk n L Z i k from fun h => h1 h.2.1))
      have T5 := Lib.hid (stepAns_no (show ¬ TwoOk n L Z i k from fun h => h1 h.2.1))
      clear h1 hx1 hx2
      have t1 : True := trivial
      go_enter Tryd.func87, Tryd.ntmps87
      go_wp2_with (first
        | (go_at_call 39; refine H1.out.mono ?_; rintro e w0 ⟨rfl, hb0⟩; rw [T1.out])
        | ((with_reducible refine arr_alloc 25 _ (Tryd.zeroRates _) ?_); intro w1 hA1 hs1 hb1; have S1 := Lib.hid hs1; clear hs1)
        | ((with_reducible refine arr_store 25 _ _ _ _ _ _ (rateF n L Z) ?_ ?_ hA1 Tryd.sizeRates ?_); exact rfl; exact rfl; intro w2 hA2 hs2 ho2 hb2; clear hA1; have B2 := Lib.hid ((hb0.trans (hb1.mono hb0.size)).trans (hb2.mono hb0.size)); clear hb0 hb1 hb2 hs2 ho2)
        | ((with_reducible refine arr_load_g 25 _ _ _ _ _ _ _ _ ?_ ?_ hA2 Tryd.underlying52 Tryd.sizeRates ?_); exact rfl; exact rfl)
        | (have _t := t1; go_at_call 120; refine (has_any n _ _ _ HK.out).mono ?_; clear t1; rintro e w3 ⟨rfl, hb3⟩; rw [T2.out]; have hA3 := hA2.below hA2.lt hb3; clear hA2; have hA2 := hA3; clear hA3; have B3 := Lib.hid (B2.out.trans (hb3.mono B2.out.size)); clear hb3))
      go_ret2
      exact ⟨by rw [T4.out, T5.out]; rfl, B3.out⟩
  · have T1 := Lib.hid (tt_no hr)
    have T4 := Lib.hid (tt_no (show ¬ TwoOk n L Z i k from fun h => hr h.1))
    have T5 := Lib.hid (stepAns_no (show ¬ TwoOk n L Z i k from fun h => hr h.1))
    clear hr hx1 hx2
    go_enter Tryd.func87, Tryd.ntmps87
    go_wp2_with (first
      | (go_at_call 39; refine H1.out.mono ?_; rintro e w0 ⟨rfl, hb0⟩; rw [T1.out])
      | ((with_reducible refine arr_alloc 25 _ (Tryd.zeroRates _) ?_); intro w1 hA1 hs1 hb1; have S1 := Lib.hid hs1; clear hs1)
      | ((with_reducible refine arr_store 25 _ _ _ _ _ _ (rateF n L Z) ?_ ?_ hA1 Tryd.sizeRates ?_); exact rfl; exact rfl; intro w2 hA2 hs2 ho2 hb2; clear hA1; have B2 := Lib.hid ((hb0.trans (hb1.mono hb0.size)).trans (hb2.mono hb0.size)); clear hb0 hb1 hb2 hs2 ho2))
    go_ret2
    exact ⟨by rw [T4.out, T5.out]; rfl, B2.out⟩
end Go.Proofs.YtabdbgnkiebcdaaDoor

namespace Go.Proofs.YtabdbgnkiebcdaaDoor
set_option linter.unusedVariables false
open Go.RowKit

set_option maxHeartbeats 400000 in
theorem rateIn_any (n c : Nat) (a : Option Addr) (A : Nat → Option Addr) (L C : Nat → Nat) (Z : Nat → Nat → Int) (w : World) (hn0 : n ≤ 1048576) (hL0 : ∀ r, r < n → L r ≤ 1048576) (ha0 : Tab w a n A L C Z) :
    Calls Tryd.prog 85 #[.slice a n c] w fun e w' => e = .returned (.bool (tt (IsRates n L Z))) ∧ Below w.heap.size w w' := by
  have hn := hn0; have hL := hL0; have ha := ha0; clear hn0 hL0 ha0
  have HC := Lib.hid (readRates_any n c a A L C Z w hn hL ha)
  clear hL ha
  go_enter Tryd.func85, Tryd.ntmps85
  go_wp2_with (first
    | (go_at_call 39; refine HC.out.mono ?_; rintro e w0 ⟨rfl, hb0⟩)
    | ((with_reducible refine arr_alloc 25 _ (Tryd.zeroRates _) ?_); intro w1 hA1 hs1 hb1; have S1 := Lib.hid hs1; clear hs1)
    | ((with_reducible refine arr_store 25 _ _ _ _ _ _ (rateF n L Z) ?_ ?_ hA1 Tryd.sizeRates ?_); exact rfl; exact rfl; intro w2 hA2 hs2 ho2 hb2; clear hA1))
  go_ret
  exact ⟨rfl, (hb0.trans (hb1.mono hb0.size)).trans (hb2.mono hb0.size)⟩
end Go.Proofs.YtabdbgnkiebcdaaDoor

namespace Go.Proofs.YtabdbgnkiebcdaaDoor
set_option linter.unusedVariables false
open Go.RowKit

set_option maxHeartbeats 1600000 in
theorem priceFind_cap (n c : Nat) (a : Option Addr) (A : Nat → Option Addr) (L C : Nat → Nat) (Z : Nat → Nat → Int) (w : World) (hn0 : n ≤ 1048576) (hL0 : ∀ r, r < n → L r ≤ 1048576) (ha0 : Tab w a n A L C Z) :
    Calls Tryd.prog 43 #[.slice a n c] w (RetID (tt (FindOk n L Z)) (findN n L Z) (leastF (foundF Z n) n) w) := by
  have H1 := Lib.hid (rateIn_any n c a A L C Z w hn0 hL0 ha0)
  by_cases hr : IsRates n L Z
  · have H2 := Lib.hid (fun w' (hb : Below w.heap.size w w') => rateGains_any n c a A L C Z w' hn0 hL0 (ha0.below (Nat.le_refl _) hb))
    have H3 := Lib.hid (fun (k : Nat) w' (hk : k < n) (hb : Below w.heap.size w w') => rateStep_any n c a A L C Z (k : Int) 0 w' hn0 hL0 (ha0.below (Nat.le_refl _) hb) (by unfold I64; omega) (by unfold I64; omega))
    have T1 := Lib.hid (tt_of hr)
    have T2 := Lib.hid (gainN_yes hr)
    have hn2 := hr.1.1
    have hn5 := hr.1.2
    have HX := Lib.hid (fun k (hk : k < n) => foundF_range hr hk)
    have HS := Lib.hid (show ∀ k, k < n → stepAns n L Z (k : Int) 0 = foundF Z n k ∧ tt (TwoOk n L Z (k : Int) 0) = true from fun k hk => by
      have h : TwoOk n L Z (k : Int) 0 := ⟨hr, ⟨by omega, by omega⟩, ⟨by omega, by omega⟩⟩
      exact ⟨by rw [stepAns_yes h]; rfl, tt_of h⟩)
    obtain ⟨N, hN⟩ : ∃ N, N = (gaining n Z).length := ⟨_, rfl⟩
    by_cases h0 : N = 0
    · have TG := Lib.hid (tt_no (show ¬ 0 < gainN n L Z by rw [T2.out, ← hN]; omega))
      have T4 := Lib.hid (tt_of (show FindOk n L Z from ⟨hr, by omega⟩))
      have T5 := Lib.hid (findN_yes (show FindOk n L Z from ⟨hr, by omega⟩))
      have hmk := run_make_row' (P := Tryd.prog) 103 3 (.int .i64 0) 8 Tryd.underlying103 Tryd.infoInt rfl .i64 .i64 n (by omega) (by omega)
      clear hL0 ha0 hr hN h0
      go_enter Tryd.func43, Tryd.ntmps43
      go_wp2_with (first
        | (go_at_call 85; refine H1.out.mono ?_; rintro e w1 ⟨rfl, hb1⟩; rw [T1.out]; have B1 := Lib.hid hb1; clear hb1)
        | (go_at_call 86; refine (H2.out _ B1.out).mono ?_; rintro e w2 ⟨rfl, hb2⟩; rw [TG.out]; have B2 := Lib.hid (below_chain B1.out hb2); clear hb2))
      clear hmk
      obtain ⟨g, hg⟩ : ∃ g, g = w2.heap.size := ⟨_, rfl⟩
      have hgw : w.heap.size ≤ g := by have := B2.out.size; omega
      have O0 := Lib.hid (OwnR.of_row (World.rowIs_made w2 (.int .i64 0) n 3))
      have BA := Lib.hid (show Below w.heap.size w (w2.alloc (.cells (madeCells #[.int .i64 0] n) 3)) from B2.out.alloc B2.out.size _)
      rw [← hg] at O0 ⊢
      clear hg
      go_loopw [5, 18] (fun _ s wr => ∃ k : Nat, k ≤ n ∧ s = .int .i64 k ∧ OwnR wr g (some ⟨g, 0, none⟩) n (fun j => if j < k then foundF Z n j else 0) ∧ g < wr.heap.size ∧ Below w.heap.size w wr) (fun _ s _ => n - (intOf s).toNat)
      case atStart => exact ⟨0, Nat.zero_le _, rfl, O0.out.congr (fun j _ => by rw [if_neg (Nat.not_lt_zero _)]), by have := World.block_lt_of_cell? _ _ (O0.out.at (show 0 < n by omega)).1; exact this, BA.out⟩
      case round =>
        obtain ⟨k, hk, rfl, hO, hgl, hb⟩ := hrel
        have HO := Lib.hid hO
        have HB := Lib.hid hb
        clear hO hb O0 BA
        by_cases hlt : k < n
        · have E1 := Lib.hid (HS.out k hlt).1
          have E2 := Lib.hid (HS.out k hlt).2
          go_wp2_with (go_at_call 87; refine (H3.out k _ hlt HB.out).mono ?_; rintro e w3 ⟨rfl, hb3⟩; rw [E1.out, E2.out]; have O3 := Lib.hid (HO.out.of_block (hb3.block g hgl)); have hc3 := (O3.out.at hlt).1; have hf3 := (O3.out.at hlt).2; have B3 := Lib.hid (HB.out.trans (hb3.mono HB.out.size)); have Z3 := Lib.hid hb3.size; clear hb3)
          go_roundw
          case rel =>
            refine ⟨k + 1, by omega, by go_num, (O3.out.set hlt _).congr (fun j _ => ?_), by have := Z3.out; simp; omega, B3.out.setCell (p := ⟨g, k, none⟩) hgw _⟩
            by_cases e : j = k
            · subst e; rw [if_pos rfl, if_pos (by omega)]
            · rw [if_neg e]
              by_cases h' : j < k
              · rw [if_pos h', if_pos (by omega)]
              · rw [if_neg h', if_neg (by omega)]
          case measure => simp [intOf]; omega
        · obtain rfl : k = n := by omega
          have HR := Lib.hid ((HO.out.congr (Y := foundF Z k) (fun j hj => by rw [if_pos hj])).rd)
          go_wp2_with (go_at_call 88; refine (lowest_any k _ _ (foundF Z k) _ (by omega) hn5 HR.out HX.out).mono ?_; rintro e w4 ⟨g4, cap4, rfl, hg4, hO4, hb4⟩; have O4 := Lib.hid hO4; have B4 := Lib.hid (HB.out.trans (hb4.mono HB.out.size)); have Z4 := Lib.hid (show w.heap.size ≤ g4 by have := HB.out.size; omega); clear hO4 hb4)
          go_ret2
          refine ⟨_, _, by rw [T4.out, T5.out]; rfl, by rw [T5.out]; exact hg4.2.2, ?_, B4.out⟩
          rw [T5.out]
          exact .inr ⟨g4, Z4.out, hg4.2.1, O4.out⟩
    · have TG := Lib.hid (tt_of (show 0 < gainN n L Z by rw [T2.out, ← hN]; omega))
      have T4 := Lib.hid (tt_no (show ¬ FindOk n L Z from fun h => h0 (by rw [hN]; exact h.2)))
      have T5 := Lib.hid (findN_no (show ¬ FindOk n L Z from fun h => h0 (by rw [hN]; exact h.2)))
      clear hL0 ha0 hr hN h0
      go_enter Tryd.func43, Tryd.ntmps43
      go_wp2_with (first
        | (go_at_call 85; refine H1.out.mono ?_; rintro e w1 ⟨rfl, hb1⟩; rw [T1.out]; have B1 := Lib.hid hb1; clear hb1)
        | (go_at_call 86; refine (H2.out _ B1.out).mono ?_; rintro e w2 ⟨rfl, hb2⟩; rw [TG.out]; have B2 := Lib.hid (below_chain B1.out hb2); clear hb2))
      go_ret2
      exact ⟨_, _, by rw [T4.out, T5.out]; rfl, by rw [T5.out]; exact Nat.zero_le _, .inl T5.out, B2.out⟩
  · have T1 := Lib.hid (tt_no hr)
    have T4 := Lib.hid (tt_no (show ¬ FindOk n L Z from fun h => hr h.1))
    have T5 := Lib.hid (findN_no (show ¬ FindOk n L Z from fun h => hr h.1))
    clear hL0 ha0 hr
    go_enter Tryd.func43, Tryd.ntmps43
    go_wp2_with (go_at_call 85; refine H1.out.mono ?_; rintro e w1 ⟨rfl, hb1⟩; rw [T1.out]; have B1 := Lib.hid hb1; clear hb1)
    go_ret2
    exact ⟨_, _, by rw [T4.out, T5.out]; rfl, by rw [T5.out]; exact Nat.zero_le _, .inl T5.out, B1.out⟩
theorem priceFind_any (n c : Nat) (a : Option Addr) (A : Nat → Option Addr) (L C : Nat → Nat) (Z : Nat → Nat → Int) (w : World) (hn0 : n ≤ 1048576) (hL0 : ∀ r, r < n → L r ≤ 1048576) (ha0 : Tab w a n A L C Z) :
    Calls Tryd.prog 43 #[.slice a n c] w (RetIB (tt (FindOk n L Z)) (findN n L Z) (leastF (foundF Z n) n) w) := by
  refine (priceFind_cap n c a A L C Z w hn0 hL0 ha0).mono ?_
  rintro e w' ⟨b, d, he, _, hO, hb⟩
  exact ⟨b, d, he, hO, hb⟩
end Go.Proofs.YtabdbgnkiebcdaaDoor

namespace Go.Proofs.YtabdbgnkiebcdaaDoor
set_option linter.unusedVariables false
set_option linter.unusedSimpArgs false
open Go.RowKit

set_option maxRecDepth 100000 in
set_option maxHeartbeats 3200000 in
theorem proofRate_any (n c : Nat) (a : Option Addr) (A : Nat → Option Addr) (L C : Nat → Nat) (Z : Nat → Nat → Int) (w : World) (hT : PowAt w) (hn0 : n ≤ 1048576) (hL0 : ∀ r, r < n → L r ≤ 1048576) (ha0 : Tab w a n A L C Z) :
    Calls Tryd.prog 14 #[.slice a n c] w fun e w' => e = .returned (.tuple #[.string (strU (prT n L Z)), .bool (tt (IsRates n L Z))]) ∧ Below w.heap.size w w' := by
  have H1 := Lib.hid (readRates_any n c a A L C Z w hn0 hL0 ha0)
  have HA := Lib.hid ha0
  have HT := Lib.hid hT
  have HL := Lib.hid hL0
  clear ha0 hT hL0
  have t1 : True := trivial
  by_cases hr : IsRates n L Z
  · have T1 := Lib.hid (tt_of hr)
    have hn5 := hr.1.2
    by_cases hg : 0 < gainN n L Z
    · have T2 := Lib.hid (tt_of hg)
      have E := Lib.hid (prT_gain hr hg)
      have FW := Lib.hid (gain_few hn5 (first_few hr hg))
      obtain ⟨F, hF⟩ : ∃ F, F = rateF n L Z := ⟨_, rfl⟩
      rw [← hF] at H1
      clear hF hr hg
      go_enter Tryd.func14, Tryd.ntmps14
      go_wp2_with (first
        | (go_at_call 39; refine H1.out.mono ?_; rintro e w0 ⟨rfl, hb0⟩; rw [T1.out]; have B0 := Lib.hid hb0; clear hb0)
        | (have _t := t1; (with_reducible refine arr_alloc 25 _ (Tryd.zeroRates _) ?_); clear t1; intro w1 hA1 hs1 hb1; have S1 := Lib.hid hs1; have B1 := Lib.hid (below_chain B0.out hb1); clear hs1 hb1)
        | ((with_reducible refine arr_store 25 _ _ _ _ _ _ F ?_ ?_ hA1 Tryd.sizeRates ?_); exact rfl; exact rfl; intro w3 hA3 hs3 ho3 hb3; have A3 := Lib.hid hA3; have B3 := Lib.hid (B1.out.trans (hb3.mono B0.out.size)); clear hA1 hA3 hs3 ho3 hb3)
        | (go_at_call 40; refine (rateFirst_any n c a A L C Z _ hn0 HL.out (HA.out.below (Nat.le_refl _) B3.out)).mono ?_; rintro e w4 ⟨a4, c4, rfl, hcap, hO, hb4⟩; rw [T2.out]; have A4 := Lib.hid (A3.out.below A3.out.lt hb4); have R4 := Lib.hid hO.rd; have B4 := Lib.hid (below_chain B3.out hb4); clear hb4 hcap hO)
        | ((with_reducible refine arr_load 25 _ _ _ _ _ _ F ?_ A4.out Tryd.underlying52 Tryd.sizeRates ?_); exact rfl)
        | (go_at_call 41; refine (makesGain F _ _ a4 _ c4 (Below.refl _ _)).mono ?_; rintro e w5 ⟨rfl, hb5⟩; have R5 := Lib.hid (R4.out.below (Nat.le_refl _) hb5); have B5 := Lib.hid (below_chain B4.out hb5); clear hb5)
        | (go_at_call 42; refine (proofText_any gainsB _ c4 a4 (nth (firstL n L Z)) _ _ (by decide) (by have := FW.out.2.1; omega) (nth_few FW.out.2.2) R5.out (HT.out.below (Nat.le_refl _) B5.out) rfl).mono ?_; rintro e w6 ⟨rfl, hb6⟩; have B6 := Lib.hid (below_chain B5.out hb6); clear hb6))
      go_ret2
      rw [T1.out, E.out, ← numsL_nth (firstL n L Z)]
      exact ⟨by rw [numsL_nth]; rfl, B6.out⟩
    · have T2 := Lib.hid (tt_no hg)
      have E := Lib.hid (prT_hold hr hg)
      have hfo : FindOk n L Z := ⟨hr, by have h := hg; rw [gainN_yes hr] at h; omega⟩
      have T3 := Lib.hid (tt_of hfo)
      have T4 := Lib.hid (findN_yes hfo)
      have FW := Lib.hid (show ∀ k, k < n → FewDig (leastF (foundF Z n) n k) from fun k hk => by
        have := (found_holds hfo).1.1.2.2 k hk
        exact ⟨by omega, by omega⟩)
      obtain ⟨F, hF⟩ : ∃ F, F = rateF n L Z := ⟨_, rfl⟩
      rw [← hF] at H1
      clear hF hr hg hfo
      go_enter Tryd.func14, Tryd.ntmps14
      go_wp2_with (first
        | (go_at_call 39; refine H1.out.mono ?_; rintro e w0 ⟨rfl, hb0⟩; rw [T1.out]; have B0 := Lib.hid hb0; clear hb0)
        | (have _t := t1; (with_reducible refine arr_alloc 25 _ (Tryd.zeroRates _) ?_); clear t1; intro w1 hA1 hs1 hb1; have S1 := Lib.hid hs1; have B1 := Lib.hid (below_chain B0.out hb1); clear hs1 hb1)
        | ((with_reducible refine arr_store 25 _ _ _ _ _ _ F ?_ ?_ hA1 Tryd.sizeRates ?_); exact rfl; exact rfl; intro w3 hA3 hs3 ho3 hb3; have A3 := Lib.hid hA3; have B3 := Lib.hid (B1.out.trans (hb3.mono B0.out.size)); clear hA1 hA3 hs3 ho3 hb3)
        | (go_at_call 40; refine (rateFirst_any n c a A L C Z _ hn0 HL.out (HA.out.below (Nat.le_refl _) B3.out)).mono ?_; rintro e w4 ⟨a4, c4, rfl, hcap, hO, hb4⟩; rw [T2.out]; have A4 := Lib.hid (A3.out.below A3.out.lt hb4); have B4 := Lib.hid (below_chain B3.out hb4); clear hb4 hcap hO)
        | (go_at_call 43; refine (priceFind_any n c a A L C Z _ hn0 HL.out (HA.out.below (Nat.le_refl _) B4.out)).mono ?_; rintro e w7 ⟨a7, c7, rfl, hO, hb7⟩; rw [T4.out] at hO; rw [T3.out, T4.out]; have A7 := Lib.hid (A4.out.below A4.out.lt hb7); have R7 := Lib.hid hO.rd; have B7 := Lib.hid (below_chain B4.out hb7); clear hb7 hO)
        | ((with_reducible refine arr_load 25 _ _ _ _ _ _ F ?_ A7.out Tryd.underlying52 Tryd.sizeRates ?_); exact rfl)
        | (go_at_call 44; refine (makesHold F _ _ a7 _ c7 (Below.refl _ _)).mono ?_; rintro e w5 ⟨rfl, hb5⟩; have R5 := Lib.hid (R7.out.below (Nat.le_refl _) hb5); have B5 := Lib.hid (below_chain B7.out hb5); clear hb5)
        | (go_at_call 42; refine (proofText_any holdsB n c7 a7 (leastF (foundF Z n) n) _ _ (by decide) (by omega) FW.out R5.out (HT.out.below (Nat.le_refl _) B5.out) rfl).mono ?_; rintro e w6 ⟨rfl, hb6⟩; have B6 := Lib.hid (below_chain B5.out hb6); clear hb6))
      go_ret2
      rw [T1.out, E.out]
      exact ⟨rfl, B6.out⟩
  · have T1 := Lib.hid (tt_no hr)
    have E := Lib.hid (prT_no hr)
    obtain ⟨F, hF⟩ : ∃ F, F = rateF n L Z := ⟨_, rfl⟩
    rw [← hF] at H1
    clear hF hr
    go_enter Tryd.func14, Tryd.ntmps14
    go_wp2_with (first
      | (go_at_call 39; refine H1.out.mono ?_; rintro e w0 ⟨rfl, hb0⟩; rw [T1.out]; have B0 := Lib.hid hb0; clear hb0)
      | (have _t := t1; (with_reducible refine arr_alloc 25 _ (Tryd.zeroRates _) ?_); clear t1; intro w1 hA1 hs1 hb1; have S1 := Lib.hid hs1; have B1 := Lib.hid (below_chain B0.out hb1); clear hs1 hb1)
      | ((with_reducible refine arr_store 25 _ _ _ _ _ _ F ?_ ?_ hA1 Tryd.sizeRates ?_); exact rfl; exact rfl; intro w3 hA3 hs3 ho3 hb3; have B3 := Lib.hid (B1.out.trans (hb3.mono B0.out.size)); clear hA1 hA3 hs3 ho3 hb3))
    go_ret2
    rw [T1.out, E.out]
    exact ⟨rfl, B3.out⟩

set_option maxRecDepth 100000 in
set_option maxHeartbeats 3200000 in
theorem proofRateIs_any (n c : Nat) (a : Option Addr) (A : Nat → Option Addr) (L C : Nat → Nat) (Z : Nat → Nat → Int) (t : ByteArray) (w : World) (hT : PowAt w) (hE : NumErrAt w) (hn0 : n ≤ 1048576) (hL0 : ∀ r, r < n → L r ≤ 1048576) (ha0 : Tab w a n A L C Z) (ht : t.size ≤ 1048576) :
    Calls Tryd.prog 17 #[.slice a n c, .string t] w fun e w' => e = .returned (.tuple #[.int .i64 (prI n L Z t), .bool (tt (PrAny n L Z t))]) ∧ Below w.heap.size w w' := by
  have H1 := Lib.hid (readRates_any n c a A L C Z w hn0 hL0 ha0)
  clear ha0 hL0
  have t1 : True := trivial
  by_cases hr : IsRates n L Z
  · have T1 := Lib.hid (tt_of hr)
    have hn5 := hr.1.2
    have PG := Lib.hid (fun (w1 : World) (hb : Below w.heap.size w w1) => isProof_any 41 80 (.agg (cellsV 25 (rateF n L Z))) gainsB (Gains n Z) t w1 rfl (enters_of Tryd.func41 (by kernel_rfl) rfl) (enters_of Tryd.func80 (by kernel_rfl) rfl) (makesGain _ w1) (showsGain n L Z w1 hr) gainsB_ok (by decide) (fun D h => gain_few hn5 h) ht (hE.below (Nat.le_refl _) hb) (hT.below (Nat.le_refl _) hb))
    have PH := Lib.hid (fun (w1 : World) (hb : Below w.heap.size w w1) => isProof_any 44 89 (.agg (cellsV 25 (rateF n L Z))) holdsB (HoldQ n L Z) t w1 rfl (enters_of Tryd.func44 (by kernel_rfl) rfl) (enters_of Tryd.func89 (by kernel_rfl) rfl) (makesHold _ w1) (showsHold n L Z w1 hr) holdsB_ok (by decide) (fun D h => hold_few h) ht (hE.below (Nat.le_refl _) hb) (hT.below (Nat.le_refl _) hb))
    obtain ⟨F, hF⟩ : ∃ F, F = rateF n L Z := ⟨_, rfl⟩
    rw [← hF] at H1 PG PH
    by_cases hg : ProofP gainsB (Gains n Z) t
    · have T2 := Lib.hid (tt_of hg)
      have E1 := Lib.hid (prI_yes (show PrG n L Z t from ⟨hr, hg⟩))
      have E2 := Lib.hid (tt_of (show PrAny n L Z t from ⟨hr, .inl hg⟩))
      clear hF hr hg hT hE PH
      go_enter Tryd.func17, Tryd.ntmps17
      go_wp2_with (first
        | (go_at_call 39; refine H1.out.mono ?_; rintro e w0 ⟨rfl, hb0⟩; rw [T1.out]; have B0 := Lib.hid hb0; clear hb0)
        | (have _t := t1; (with_reducible refine arr_alloc 25 _ (Tryd.zeroRates _) ?_); clear t1; intro w1 hA1 hs1 hb1; have S1 := Lib.hid hs1; have B1 := Lib.hid (below_chain B0.out hb1); clear hs1 hb1)
        | ((with_reducible refine arr_store 25 _ _ _ _ _ _ F ?_ ?_ hA1 Tryd.sizeRates ?_); exact rfl; exact rfl; intro w3 hA3 hs3 ho3 hb3; have A3 := Lib.hid hA3; have B3 := Lib.hid (B1.out.trans (hb3.mono B0.out.size)); clear hA1 hA3 hs3 ho3 hb3)
        | ((with_reducible refine arr_load 25 _ _ _ _ _ _ F ?_ A3.out Tryd.underlying52 Tryd.sizeRates ?_); exact rfl)
        | (go_at_call 51; refine (PG.out _ B3.out).mono ?_; rintro e w4 ⟨rfl, hb4⟩; rw [T2.out]; have B4 := Lib.hid (below_chain B3.out hb4); clear hb4))
      go_ret2
      rw [E1.out, E2.out]
      exact ⟨rfl, B4.out⟩
    · have T2 := Lib.hid (tt_no hg)
      have E1 := Lib.hid (prI_no (show ¬ PrG n L Z t from fun h => hg h.2))
      have E2 := Lib.hid (show tt (ProofP holdsB (HoldQ n L Z) t) = tt (PrAny n L Z t) from tt_congr ⟨fun h => ⟨hr, .inr h⟩, fun h => h.2.elim (fun h' => absurd h' hg) id⟩)
      clear hF hr hg hT hE
      go_enter Tryd.func17, Tryd.ntmps17
      have t2 : True := trivial
      go_wp2_with (first
        | (go_at_call 39; refine H1.out.mono ?_; rintro e w0 ⟨rfl, hb0⟩; rw [T1.out]; have B0 := Lib.hid hb0; clear hb0)
        | (have _t := t1; (with_reducible refine arr_alloc 25 _ (Tryd.zeroRates _) ?_); clear t1; intro w1 hA1 hs1 hb1; have S1 := Lib.hid hs1; have B1 := Lib.hid (below_chain B0.out hb1); clear hs1 hb1)
        | ((with_reducible refine arr_store 25 _ _ _ _ _ _ F ?_ ?_ hA1 Tryd.sizeRates ?_); exact rfl; exact rfl; intro w3 hA3 hs3 ho3 hb3; have A3 := Lib.hid hA3; have B3 := Lib.hid (B1.out.trans (hb3.mono B0.out.size)); clear hA1 hA3 hs3 ho3 hb3)
        | (have _t := t2; (with_reducible refine arr_load 25 _ _ _ _ _ _ F ?_ A3.out Tryd.underlying52 Tryd.sizeRates ?_); exact rfl)
        | (have _t := t2; go_at_call 51; refine (PG.out _ B3.out).mono ?_; clear t2; rintro e w4 ⟨rfl, hb4⟩; rw [T2.out]; have A4 := Lib.hid (A3.out.below A3.out.lt hb4); have B4 := Lib.hid (below_chain B3.out hb4); clear hb4)
        | ((with_reducible refine arr_load 25 _ _ _ _ _ _ F ?_ A4.out Tryd.underlying52 Tryd.sizeRates ?_); exact rfl)
        | (go_at_call 51; refine (PH.out _ B4.out).mono ?_; rintro e w5 ⟨rfl, hb5⟩; have B5 := Lib.hid (below_chain B4.out hb5); clear hb5))
      go_ret2
      rw [E1.out, ← E2.out]
      exact ⟨rfl, B5.out⟩
  · have T1 := Lib.hid (tt_no hr)
    have E1 := Lib.hid (prI_no (show ¬ PrG n L Z t from fun h => hr h.1))
    have E2 := Lib.hid (tt_no (show ¬ PrAny n L Z t from fun h => hr h.1))
    obtain ⟨F, hF⟩ : ∃ F, F = rateF n L Z := ⟨_, rfl⟩
    rw [← hF] at H1
    clear hF hr hT hE
    go_enter Tryd.func17, Tryd.ntmps17
    go_wp2_with (first
      | (go_at_call 39; refine H1.out.mono ?_; rintro e w0 ⟨rfl, hb0⟩; rw [T1.out]; have B0 := Lib.hid hb0; clear hb0)
      | (have _t := t1; (with_reducible refine arr_alloc 25 _ (Tryd.zeroRates _) ?_); clear t1; intro w1 hA1 hs1 hb1; have S1 := Lib.hid hs1; have B1 := Lib.hid (below_chain B0.out hb1); clear hs1 hb1)
      | ((with_reducible refine arr_store 25 _ _ _ _ _ _ F ?_ ?_ hA1 Tryd.sizeRates ?_); exact rfl; exact rfl; intro w3 hA3 hs3 ho3 hb3; have B3 := Lib.hid (B1.out.trans (hb3.mono B0.out.size)); clear hA1 hA3 hs3 ho3 hb3))
    go_ret2
    rw [E1.out, E2.out]
    exact ⟨rfl, B3.out⟩
end Go.Proofs.YtabdbgnkiebcdaaDoor

namespace Go.Proofs.YtabdbgnkiebcdaaDoor
set_option linter.unusedVariables false

section
open Go.RowKit
/-- The blocks of a table lie at or behind lo. -/
def Apart (lo N : Nat) (ga : Option Addr) (A : Nat → Option Addr) : Prop := (∀ b o, ga = some ⟨b, o, none⟩ → lo ≤ b) ∧ ∀ s, s < N → ∀ b o, A s = some ⟨b, o, none⟩ → lo ≤ b
theorem Apart.mono {lo lo' N : Nat} {ga : Option Addr} {A : Nat → Option Addr} (h : Apart lo N ga A) (hl : lo' ≤ lo) : Apart lo' N ga A :=
  ⟨fun b o e => Nat.le_trans hl (h.1 b o e), fun s hs b o e => Nat.le_trans hl (h.2 s hs b o e)⟩

/-- What l91Table hands back: a table of one to five rows, of five numbers at most, the reader gone on. -/
def DrewTab (r : Nat) (a : Option Addr) (n c p : Nat) (w : World) (e : Ending) (w' : World) : Prop :=
  ∃ ga N gc A L C Z p', e = .returned (.slice ga N gc) ∧ (1 ≤ N ∧ N ≤ 5) ∧ ((∀ s, s < N → L s ≤ 5) ∧ Apart w.heap.size N ga A) ∧ Tab w' ga N A L C Z ∧ RdrAt w' r a n c p' ∧ p' ≤ p + 200 ∧ ButR r w.heap.size w w'

theorem making_butR {tS B r i : Nat} {w w' : World} {v : Value} {G Cp L : Nat → Nat} {X : Nat → Nat → Int} (h : Making tS B w v i G Cp L X) (hr : r < B) (hk : ButR r w.heap.size w w') : Making tS B w' v i G Cp L X := by
  obtain ⟨h1, h2, h3⟩ := h
  refine ⟨?_, fun s hs => ?_, h3⟩
  · obtain ⟨k1, (k2 | ⟨g, cap, cur, k3, k4, k5, k6⟩)⟩ := h1
    · exact ⟨k1, .inl k2⟩
    · exact ⟨k1, .inr ⟨g, cap, cur, k3, k4, (hk.block g (Array.getElem?_eq_some_iff.1 k5).1 (by omega)).trans k5, k6⟩⟩
  · obtain ⟨k1, k2, k3, k4⟩ := h2 s hs
    exact ⟨k1, Nat.lt_of_lt_of_le k2 hk.size, k3, k4.of_block (hk.block _ k2 (by omega))⟩
theorem rd_butR {w w' : World} {r g m B : Nat} {X : Nat → Int} (h : Rd w (some ⟨g, 0, none⟩) m X) (hg : g ≠ r) (hB : g < B) (hk : ButR r B w w') : Rd w' (some ⟨g, 0, none⟩) m X := by
  intro k hkm
  obtain ⟨b, o, e, hc⟩ := h k hkm
  refine ⟨b, o, e, ?_⟩
  simp only [Option.some.injEq, Addr.mk.injEq, and_true] at e
  obtain ⟨rfl, rfl⟩ := e
  rw [World.cell?_of_block (w := w) (a := ⟨g, 0 + k, none⟩) (hk.block g hB hg)]
  exact hc
theorem making_same {tS B i : Nat} {w : World} {v : Value} {G Cp L : Nat → Nat} {X X' : Nat → Nat → Int} (h : Making tS B w v i G Cp L X) (e : ∀ s, s < i → X s = X' s) : Making tS B w v i G Cp L X' :=
  ⟨h.1, fun s hs => by rw [← e s hs]; exact h.2.1 s hs, h.2.2⟩

/-- What they hand back: a table of one to five rows, of five numbers at most. -/
def DrewTabTop (w : World) (e : Ending) (w' : World) : Prop :=
  ∃ ga N gc A L C Z, e = .returned (.slice ga N gc) ∧ (1 ≤ N ∧ N ≤ 5) ∧ (∀ s, s < N → L s ≤ 5) ∧ Tab w' ga N A L C Z ∧ Below w.heap.size w w'
end

section
open Go.RowKit
/-- What it hands back: a table of one to five rows, of five numbers at most, and a row of as many prices. -/
def DrewBoth (w : World) (e : Ending) (w' : World) : Prop :=
  ∃ ga N gc A L C Z b d W, e = .returned (.tuple #[.slice ga N gc, .slice b N d]) ∧ (1 ≤ N ∧ N ≤ 5 ∧ N ≤ d) ∧ (∀ s, s < N → L s ≤ 5) ∧ Tab w' ga N A L C Z ∧ Rd w' b N W ∧ Below w.heap.size w w'

theorem tab_but {r lo : Nat} {w w' : World} {a : Option Addr} {n : Nat} {A : Nat → Option Addr} {L C : Nat → Nat} {X : Nat → Nat → Int} (h : Tab w a n A L C X) (hA : Apart lo n a A) (hr : r < lo) (hk : ButR r w.heap.size w w') : Tab w' a n A L C X := by
  intro s hs
  obtain ⟨b, o, he, hc, hd⟩ := h s hs
  have h1 := hA.1 b o he
  have hl : b < w.heap.size := World.block_lt_of_cell? _ _ hc
  refine ⟨b, o, he, (World.cell?_of_block (w := w) (a := ⟨b, o + s, none⟩) (hk.block b hl (by omega))).trans hc, fun k hk' => ?_⟩
  obtain ⟨b2, o2, he2, hc2⟩ := hd k hk'
  have h2 := hA.2 s hs b2 o2 he2
  have hl2 : b2 < w.heap.size := World.block_lt_of_cell? _ _ hc2
  exact ⟨b2, o2, he2, (World.cell?_of_block (w := w) (a := ⟨b2, o2 + k, none⟩) (hk.block b2 hl2 (by omega))).trans hc2⟩
end
end Go.Proofs.YtabdbgnkiebcdaaDoor
