/- The program's RateBest. -/
import Derived.Test.YtmjbocgoinfamaaRateRounds
import Derived.Test.YtmjbocgoinfamaaSpecRateBest
import Derived.Test.YtmjbocgoinfamaaHas
import Derived.Test.YtmjbocgoinfamaaWayValue
import Derived.Lib.MinMax
import Derived.IntWalk
namespace Go.Proofs.Ytmjbocgoinfamaa
set_option linter.unusedVariables false
set_option linter.unusedSimpArgs false
open Go.RowKit
attribute [local go_sem] Oper.semAt_some wide_fn wide_round_fn

theorem wayV_rates {n : Nat} {L : Nat → Nat} {Z : Nat → Nat → Int} (h : IsRates n L Z) {D : List Int} (hw : IsWay n D.length (nth D)) : wayV n (atF (rateF n L Z)) D = wayV n Z D :=
  valF_congr _ (fun j hj => by
    have h2 := hw.2.1
    have h1 := hw.1.1 j (by omega)
    have h3 := hw.1.1 (j + 1) (by omega)
    exact atF_rate h (by omega) (by omega))

set_option maxRecDepth 100000 in
set_option maxHeartbeats 4000000 in
theorem rateBest_any (n c : Nat) (a : Option Addr) (A : Nat → Option Addr) (L C : Nat → Nat) (Z : Nat → Nat → Int) (i k : Int) (w : World) (hn0 : n ≤ 1048576) (hL0 : ∀ r, r < n → L r ≤ 1048576) (ha0 : Tab w a n A L C Z) (hx1 : I64 i) (hx2 : I64 k) :
    Calls Try.prog 16 #[.slice a n c, .int .i64 i, .int .i64 k] w fun e w' => e = .returned (.tuple #[.int .i64 (bestAns n L Z i k), .bool (tt (TwoOk n L Z i k))]) ∧ Below w.heap.size w w' := by
  have H1 := Lib.hid (readRates_any n c a A L C Z (w.alloc (.cells #[.int .i64 k] 3)) hn0 hL0 (ha0.below (Nat.le_refl _) (below_alloc (Below.refl _ w) _)))
  clear hL0 ha0
  refine (callsIn_wide (n := 9)).1 ?_
  refine callsIn_of_wp_marks Try.func16 rfl trivial ?_ rfl
  simp only [Try.ntmps16, List.size_toArray, List.length_cons, List.length_nil, Nat.reduceAdd, Nat.reduceSub, Array.replicate_succ, Array.replicate_zero, List.push_toArray, List.append_toArray, List.nil_append, List.cons_append]
  by_cases hr : IsRates n L Z
  · have T1 := Lib.hid (tt_of hr)
    have HK := Lib.hid (Kept.of_rates hr)
    have HR := Lib.hid hr
    have hn5 := hr.1.2
    have hn2 := hr.1.1
    clear hr
    have t1 := Lib.hid True.intro
    have t2 := Lib.hid True.intro
    by_cases h1 : InR i 0 ((n : Int) - 1)
    · have T2 := Lib.hid (tt_of h1)
      by_cases h2 : InR k 0 ((n : Int) - 1)
      · have T3 := Lib.hid (tt_of h2)
        have hok : TwoOk n L Z i k := ⟨HR.out, h1, h2⟩
        have T4 := Lib.hid (tt_of hok)
        have T5 := Lib.hid (bestAns_yes hok)
        obtain ⟨x, hx⟩ := Int.eq_ofNat_of_zero_le h1.1
        obtain ⟨y, hy⟩ := Int.eq_ofNat_of_zero_le h2.1
        subst hx hy
        have hxn : x < n := by have := h1.2; omega
        have hyn : y < n := by have := h2.2; omega
        clear h1 h2 hok hx1 hx2
        by_cases hxy : x = y
        · have hq : ((x : Int) == (y : Int)) = true := by simp [hxy]
          have E1 := Lib.hid (show bestAns n L Z x y = p12 (n - 1) by rw [T5.out, hxy, if_pos rfl]; exact best_same (by omega))
          have HP := Lib.hid (show p12 ((n : Int) - 1).toNat = p12 (n - 1) by rw [show ((n : Int) - 1).toNat = n - 1 by omega])
          clear hxy
          gi_wp2_with (first
            | (gi_at_call 52; refine (callsIn_wide.2 H1.out).mono ?_; rintro e w0 ⟨rfl, hb0⟩; rw [T1.out]; simp only [World.size_alloc] at hb0; have hz0 : w.heap.size + 1 ≤ w0.heap.size := by have := hb0.size; simpa using this)
            | ((with_reducible refine arrI_alloc 25 _ (Try.zeroRates _) ?_); intro w1 hA1 hs1 hb1; have S1 := Lib.hid hs1; clear hs1)
            | ((with_reducible refine arrI_store 25 _ _ _ _ _ _ (rateF n L Z) ?_ ?_ hA1 Try.sizeRates ?_); exact rfl; exact rfl; intro w2 hA2 hs2 ho2 hb2; clear hA1; have B2 := Lib.hid ((hb0.trans (hb1.mono hz0)).trans (hb2.mono hz0)); have Z2 := Lib.hid (show w.heap.size + 1 ≤ w2.heap.size by have := hb1.size; omega); have CK := (B2.out.cell (p := ⟨w.heap.size, 0, none⟩) (show w.heap.size < w.heap.size + 1 by omega)).trans (show _ = some (.int .i64 y) by simp); clear hb0 hb1 hb2 hs2 ho2 hz0)
            | ((with_reducible refine arrI_load_g 25 _ _ _ _ _ (some _) _ _ ?_ ?_ hA2 Try.underlying58 Try.sizeRates ?_); exact rfl; exact rfl)
            | (have _t := t1; gi_at_call 58; refine (callsIn_wide.2 (has_any n _ _ _ HK.out)).mono ?_; clear t1; rintro e w3 ⟨rfl, hb3⟩; rw [T2.out]; have hA3 := hA2.below hA2.lt hb3; clear hA2; have hA2 := hA3; clear hA3; have B3 := Lib.hid (B2.out.trans (hb3.mono Z2.out)); have Z3 := Lib.hid (Nat.le_trans Z2.out hb3.size); have CK3 := (hb3.cell (p := ⟨w.heap.size, 0, none⟩) Z2.out).trans CK; clear CK; have CK := CK3; clear CK3 hb3)
            | (have _t := t2; gi_at_call 58; refine (callsIn_wide.2 (has_any n _ _ _ HK.out)).mono ?_; clear t2; rintro e w4 ⟨rfl, hb4⟩; rw [T3.out]; have hA4 := hA2.below hA2.lt hb4; clear hA2; have hA2 := hA4; clear hA4; have B4 := Lib.hid (B3.out.trans (hb4.mono Z3.out)); have Z4 := Lib.hid (Nat.le_trans Z3.out hb4.size); have CK4 := (hb4.cell (p := ⟨w.heap.size, 0, none⟩) Z3.out).trans CK; clear CK; have CK := CK4; clear CK4 hb4)
            | ((with_reducible refine arrI_load 25 _ _ _ _ _ _ _ ?_ hA2 Try.underlying58 Try.sizeRates ?_); exact rfl)
            | (gi_at_call 59; refine (callsIn_wide.2 (size_any n _ _ HK.out)).mono ?_; rintro e w5 ⟨rfl, hb5⟩; have CK5 := (hb5.cell (p := ⟨w.heap.size, 0, none⟩) Z4.out).trans CK; clear CK; have CK := CK5; clear CK5; have B5 := Lib.hid (B4.out.trans (hb5.mono Z4.out)); clear hb5)
            | (gi_at_call 60; refine (callsIn_wide.2 (unitAfter_any _ _ (by omega) (by omega))).mono ?_; rintro e w6 ⟨rfl, rfl⟩; rw [HP.out]))
          refine ⟨_, results_tmp2 rfl _ _ _, ?_, (below_alloc (Below.refl _ w) _).trans (B5.out.mono (by omega))⟩
          rw [T4.out, E1.out]; rfl
        · have hq : ((x : Int) == (y : Int)) = false := by simp; omega
          have E1 := Lib.hid (show bestAns n L Z x y = bestL n Z y 0 (longer n (n - 1) [(x : Int)]) by rw [T5.out, if_neg (by omega)])
          gi_wp2_with (first
            | (gi_at_call 52; refine (callsIn_wide.2 H1.out).mono ?_; rintro e w0 ⟨rfl, hb0⟩; rw [T1.out]; simp only [World.size_alloc] at hb0; have hz0 : w.heap.size + 1 ≤ w0.heap.size := by have := hb0.size; simpa using this)
            | ((with_reducible refine arrI_alloc 25 _ (Try.zeroRates _) ?_); intro w1 hA1 hs1 hb1; have S1 := Lib.hid hs1; clear hs1)
            | ((with_reducible refine arrI_store 25 _ _ _ _ _ _ (rateF n L Z) ?_ ?_ hA1 Try.sizeRates ?_); exact rfl; exact rfl; intro w2 hA2 hs2 ho2 hb2; clear hA1; have B2 := Lib.hid ((hb0.trans (hb1.mono hz0)).trans (hb2.mono hz0)); have Z2 := Lib.hid (show w.heap.size + 1 ≤ w2.heap.size by have := hb1.size; omega); have CK := (B2.out.cell (p := ⟨w.heap.size, 0, none⟩) (show w.heap.size < w.heap.size + 1 by omega)).trans (show _ = some (.int .i64 y) by simp); clear hb0 hb1 hb2 hs2 ho2 hz0)
            | ((with_reducible refine arrI_load_g 25 _ _ _ _ _ (some _) _ _ ?_ ?_ hA2 Try.underlying58 Try.sizeRates ?_); exact rfl; exact rfl)
            | (have _t := t1; gi_at_call 58; refine (callsIn_wide.2 (has_any n _ _ _ HK.out)).mono ?_; clear t1; rintro e w3 ⟨rfl, hb3⟩; rw [T2.out]; have hA3 := hA2.below hA2.lt hb3; clear hA2; have hA2 := hA3; clear hA3; have B3 := Lib.hid (B2.out.trans (hb3.mono Z2.out)); have Z3 := Lib.hid (Nat.le_trans Z2.out hb3.size); have CK3 := (hb3.cell (p := ⟨w.heap.size, 0, none⟩) Z2.out).trans CK; clear CK; have CK := CK3; clear CK3 hb3)
            | (have _t := t2; gi_at_call 58; refine (callsIn_wide.2 (has_any n _ _ _ HK.out)).mono ?_; clear t2; rintro e w4 ⟨rfl, hb4⟩; rw [T3.out]; have hA4 := hA2.below hA2.lt hb4; clear hA2; have hA2 := hA4; clear hA4; have B4 := Lib.hid (B3.out.trans (hb4.mono Z3.out)); have Z4 := Lib.hid (Nat.le_trans Z3.out hb4.size); have CK4 := (hb4.cell (p := ⟨w.heap.size, 0, none⟩) Z3.out).trans CK; clear CK; have CK := CK4; clear CK4 hb4)
            | ((with_reducible refine arrI_load 25 _ _ _ _ _ _ _ ?_ hA2 Try.underlying58 Try.sizeRates ?_); exact rfl)
            | (gi_at_call 59; refine (callsIn_wide.2 (size_any n _ _ HK.out)).mono ?_; rintro e w5 ⟨rfl, hb5⟩; have CK5 := (hb5.cell (p := ⟨w.heap.size, 0, none⟩) Z4.out).trans CK; clear CK; have CK := CK5; clear CK5; have B5 := Lib.hid (B4.out.trans (hb5.mono Z4.out)); have Z5 := Lib.hid (Nat.le_trans Z4.out hb5.size); have hA5 := hA2.below hA2.lt hb5; clear hA2; have hA2 := hA5; clear hA5 hb5)
            | (gi_at_call 61; refine (callsIn_wide.2 (waysFrom_any _ _ _)).mono ?_; rintro e w6 ⟨rfl, rfl⟩))
          obtain ⟨s, hs⟩ : ∃ s, s = w.heap.size := ⟨_, rfl⟩
          obtain ⟨bt, hbt⟩ : ∃ bt, bt = w0.heap.size := ⟨_, rfl⟩
          obtain ⟨bb, hbb⟩ : ∃ bb, bb = w5.heap.size := ⟨_, rfl⟩
          obtain ⟨W0, hW0⟩ : ∃ W0, W0 = ((w5.alloc (.cells #[.int .i64 0] 3)).alloc (.cells #[.int .i64 n] 3)).alloc (.cells #[.int .i64 x] 3) := ⟨_, rfl⟩
          have hz5 := Z5.out
          have hbtl : bt < bb := by rw [hbt, hbb]; exact hA2.lt
          have hsb : s < bb := by omega
          have hs0 : W0.heap.size = bb + 3 := by rw [hW0, hbb]; simp
          have hB0 : Below bb w5 W0 := by rw [hW0, hbb]; exact below_alloc (below_alloc (below_alloc (Below.refl _ w5) _) _) _
          have CK0 := Lib.hid (show W0.cell? ⟨s, 0, none⟩ = some (.int .i64 y) from (hB0.cell (p := ⟨s, 0, none⟩) hsb).trans (by rw [hs]; exact CK))
          have A0 := Lib.hid (show ArrAt W0 bt 58 25 (rateF n L Z) from ArrAt.of_block (w := w5) (by rw [hbt]; exact hA2) (hB0.block bt hbtl))
          have e1 : ∀ q, q < bb + 1 → W0.heap[q]? = (w5.alloc (.cells #[.int .i64 0] 3)).heap[q]? := fun q hq => by
            rw [hW0, Below.heap_alloc _ _ _ (by first | (simp; done) | (simp; omega) | omega), Below.heap_alloc _ _ _ (by first | (simp; done) | (simp; omega) | omega)]
          have CB0 := Lib.hid (show W0.cell? ⟨bb, 0, none⟩ = some (.int .i64 0) by rw [World.cell?_of_block (w := w5.alloc (.cells #[.int .i64 0] 3)) (e1 bb (by omega)), hbb]; simp)
          have FB0 := Lib.hid (show W0.frozen? ⟨bb, 0, none⟩ = false by rw [World.frozen?_of_block (w := w5.alloc (.cells #[.int .i64 0] 3)) (e1 bb (by omega)), hbb]; simp)
          have CN0 := Lib.hid (show W0.cell? ⟨bb + 1, 0, none⟩ = some (.int .i64 n) by rw [hW0, World.cell?_of_block (w := (w5.alloc _).alloc _) (Below.heap_alloc _ _ _ (by first | (simp; done) | (simp; omega) | omega)), hbb]; simp)
          have CI0 := Lib.hid (show W0.cell? ⟨bb + 2, 0, none⟩ = some (.int .i64 x) by rw [hW0, hbb]; have := World.cell?_alloc_new ((w5.alloc (.cells #[.int .i64 0] 3)).alloc (.cells #[.int .i64 n] 3)) #[.int .i64 x] 3 0; simp only [World.size_alloc] at this; exact this)
          have BB := Lib.hid (show Below s w W0 by rw [hs]; exact ((below_alloc (Below.refl _ w) _).trans (B5.out.mono (by omega))).trans (hB0.mono (by omega)))
          rw [← hW0, ← hs, ← hbt, ← hbb]
          have HS := Lib.hid hs
          have S0 := Lib.hid hs0
          have HW0 := Lib.hid hB0
          have hsW : s ≤ W0.heap.size := by omega
          clear hW0 hs hbt hbb hz5 hs0 hB0 e1 B2 B3 B4 B5 Z2 Z3 Z4 Z5 CK hA2 S1
          refine wp_seq (gf := 100) (lb := #[.pointer (some ⟨bb + 1, 0, none⟩), .pointer (some ⟨bb + 1 + 1, 0, none⟩)]) (tI := 3) rfl (enters_of Try.func100 (by kernel_rfl) rfl) rfl (R := fun k => k = bb + 1 ∨ k = bb + 1 + 1) (LL := longer n (n - 1) [(x : Int)])
            (seq_ways n x (bb + 1) (bb + 1 + 1) W0 hn2 hn5 hxn CN0.out CI0.out) (fun k => k < bb + 1) (fun k hk => ⟨fun h => by omega, by have := S0.out; omega⟩)
            (fun V pre Wx => V = (fun k => k < bb + 1) ∧ Below s w Wx ∧ Wx.cell? ⟨s, 0, none⟩ = some (.int .i64 y) ∧ ArrAt Wx bt 58 25 (rateF n L Z) ∧ Wx.cell? ⟨bb, 0, none⟩ = some (.int .i64 (bestL n Z y 0 pre)) ∧ Wx.frozen? ⟨bb, 0, none⟩ = false) (fun _ _ _ _ => False) ?cI (fun c => ⟨fun _ _ _ h => h.elim, fun _ _ _ _ h => h.elim⟩) ⟨rfl, BB.out, CK0.out, A0.out, CB0.out, FB0.out⟩
            (fun v a' _ => a' = { tmps := #[.slice a n c, .int .i64 x, .int .i64 y, undef, undef, .pointer (some ⟨s, 0, none⟩), .int .i64 0, .bool false, .pointer (some ⟨bt, 0, none⟩), .bool true, .int .i64 n, .pointer (some ⟨bb, 0, none⟩), v, .tuple #[.agg (cellsV 25 (rateF n L Z)), .bool true], .slice a n c, .tuple #[.agg (cellsV 25 (rateF n L Z)), .bool true], .agg (cellsV 25 (rateF n L Z)), .bool true, .bool true, .bool false, .bool false, .agg (cellsV 25 (rateF n L Z)), .int .i64 x, .bool true, .bool false, .bool false, .bool false, .agg (cellsV 25 (rateF n L Z)), .int .i64 y, .bool true, .bool false, .bool false, .agg (cellsV 25 (rateF n L Z)), .int .i64 n, .int .i64 x, .int .i64 y, .bool false, undef, undef, undef, .int .i64 n, .int .i64 x, .func (.func 100) #[] #[.pointer (some ⟨bb + 1, 0, none⟩), .pointer (some ⟨bb + 1 + 1, 0, none⟩)], v, undef, undef, undef, undef, undef, undef, undef, undef, undef, undef, undef, undef, undef, undef], defers := [] })
            (fun v a' W l r o h _ => h) ?assign ?body ?done ?stop
          case cI =>
            constructor
            · rintro V pre Wx ⟨rfl, h1, h2, h3, h4, h5⟩ q hq
              have := World.block_lt_of_cell? _ _ h4
              exact Nat.lt_of_le_of_lt (Nat.le_of_lt_succ hq) this
            · rintro V pre A B ⟨rfl, h1, h2, h3, h4, h5⟩ hin
              exact ⟨rfl, below_inside h1 hin (fun q hq => show q < bb + 1 by omega), hin.cell (p := ⟨s, 0, none⟩) (show s < bb + 1 by omega) h2, h3.of_block (hin.block bt (show bt < bb + 1 by omega)), hin.cell (p := ⟨bb, 0, none⟩) (show bb < bb + 1 by omega) h4, (frozen_inside hin (p := ⟨bb, 0, none⟩) (show bb < bb + 1 by omega)).trans h5⟩
          case assign =>
            intro l' v Wx K hK
            gi_wp2
            exact hK _ _ (Outside.refl _ _) rfl
          case done =>
            rintro D V Wx hD hV hnD ⟨rfl, h1, h2, h3, h4, h5⟩ hKD
            have HB := Lib.hid h1
            have hDb : bb + 1 ≤ D := by
              have : ¬ D < bb + 1 := hnD
              omega
            clear h1 h3
            gi_wp2
            refine ⟨by simp, .inl ⟨_, _, rfl, run_takeDeferred hKD, ?_⟩⟩
            refine ⟨_, results_tmp2 rfl _ _ _, ?_, ?_⟩
            · rw [T4.out, E1.out]; rfl
            · rw [← HS.out]; exact below_inside (V := fun q => q < bb + 1) HB.out (Inside.putObj (V := fun q => q < bb + 1) hnD _) (fun q hq => show q < bb + 1 by omega)
          case stop =>
            rintro D c' V pre Wx _ _ _ _ h
            exact h.elim
          case body =>
            rintro l' V pre D gb cap a' Wx ⟨rfl, h1, h2, h3, h4, h5⟩ hpre hown hgb hV rfl
            have hmem : D ∈ longer n (n - 1) [(x : Int)] := by obtain ⟨z, hz⟩ := hpre; rw [← hz]; simp
            have hway := (ways_of hxn hmem).1
            have hm2 := hway.2.1
            have hmn := hway.2.2
            have hRd : Rd Wx (some ⟨gb, 0, none⟩) D.length (nth D) := owns_rd hown
            have hcap := (owns_cap hown).1
            obtain ⟨m, hm⟩ : ∃ m, D.length = m + 1 := ⟨D.length - 1, by omega⟩
            obtain ⟨V1, hV1⟩ : ∃ V1, V1 = wayV n Z D := ⟨_, rfl⟩
            obtain ⟨ls, hls⟩ : ∃ ls, ls = nth D m := ⟨_, rfl⟩
            obtain ⟨bv, hbv⟩ : ∃ bv, bv = bestL n Z y 0 pre := ⟨_, rfl⟩
            rw [← hbv] at h4
            have QBV := Lib.hid hbv
            have RV := Lib.hid (show ∀ W2, Below Wx.heap.size Wx W2 → Calls Try.prog 54 #[.agg (cellsV 25 (rateF n L Z)), .slice (some ⟨gb, 0, none⟩) (m + 1) cap] W2 fun e w' => e = .returned (.int .i64 V1) ∧ Below W2.heap.size W2 w' from fun W2 hb => by
              rw [← hm, hV1, ← wayV_rates HR.out hway]
              exact wayValue_any n D.length cap _ _ (nth D) _ HK.out hn2 hway hcap (hRd.below (Nat.le_refl _) hb))
            have QLS := Lib.hid (show nth D (D.length - 1) = ls by rw [hls, hm]; rfl)
            have QV1 := Lib.hid hV1
            have hcl : Wx.cell? ⟨gb, m, none⟩ = some (.int .i64 ls) := by
              obtain ⟨b', o', hb', hc'⟩ := hRd m (by omega)
              simp only [Option.some.injEq, Addr.mk.injEq] at hb'
              obtain ⟨rfl, rfl, -⟩ := hb'
              rw [Nat.zero_add, ← hls] at hc'
              exact hc'
            have hm5 : m + 1 ≤ 5 := by omega
            have hm6 : m < m + 1 := by omega
            rw [hm] at hm2 hmn hcap ⊢
            have hwm : IntKind.i64.wrap (m : Int) = (m : Int) := IntWalk.i64_in _ (by omega)
            have C1 := Lib.hid h2
            have C2 := Lib.hid h4
            have C3 := Lib.hid hcl
            have A1 := Lib.hid h3
            have F1 := Lib.hid h5
            have HB := Lib.hid h1
            have hk1 : ∀ r : Later Wx, r.W.cell? ⟨s, 0, none⟩ = some (.int .i64 y) := fun r => later_cell C1.out r
            have hk3 : ∀ r : Later Wx, r.W.cell? ⟨gb, m, none⟩ = some (.int .i64 ls) := fun r => later_cell C3.out r
            clear h1 h2 h3 h4 h5 hpre hown hgb hV hmem hway hRd hm hV1 hls hbv hcl
            by_cases he : ls = y
            · have hq2 : (ls == (y : Int)) = true := by simpa using he
              have BY := Lib.hid (bestL_yes (n := n) (Z := Z) (b := 0) (LL := pre) (QLS.out.trans he))
              clear he
              gi_wp2
              refine region_later_tail 8 0 #[true, true, true, true, true, true, true, true] #[false, false, false, false, false, false, false, false] (by kernel_rfl) rfl (by kernel_rfl) (by kernel_rfl) (by kernel_rfl) (by kernel_rfl) ?_
              simp only [List.take_succ_cons, List.take_zero]
              repeat go_big_quiet_step (fail)
              refine wpQuiet_nil ?_
              rintro _ ⟨r, rfl⟩
              refine wpAnyIn_done (by kernel_rfl) ?_ _
              have hb2 : ∀ r2 : Later r.W, r2.W.cell? ⟨bb, 0, none⟩ = some (.int .i64 bv) := fun r2 => later_cell (later_cell C2.out r) r2
              have A2 := Lib.hid (later_arr A1.out r)
              gi_wp2
              refine region_later_tail 5 1 #[true, true, true, true, true, false] #[false, false, false, false, false, true] (by kernel_rfl) rfl (by kernel_rfl) (by kernel_rfl) (by kernel_rfl) (by kernel_rfl) ?_
              simp only [List.take_succ_cons, List.take_zero]
              repeat (first
                | ((with_reducible refine quiet_load_arr 25 _ _ _ 58 _ bt (rateF n L Z) ?_ ?_ Try.underlying58 Try.sizeRates ?_); exact rfl; (rintro _ ⟨r2, rfl⟩; exact later_arr A2.out r2))
                | quiet_step ((go_at_call 54; exact calls_later _ (RV.out _ (r.h.trans ((Later.h _).mono r.h.size))))))
              refine wpQuiet_nil ?_
              rintro _ ⟨r2, rfl⟩
              have hb3 := hb2 r2
              have HB2 := Lib.hid (r.h.trans (r2.h.mono r.h.size))
              have hblt : bb < Wx.heap.size := World.block_lt_of_cell? _ _ C2.out
              have hf3 : r2.W.frozen? ⟨bb, 0, none⟩ = false := (World.frozen?_of_block (w := Wx) (HB2.out.block bb hblt)).trans F1.out
              refine wpAnyIn_ready (rs := [5]) (by kernel_rfl) (by simp) (AllReadyIn.cons rfl (fun K hK => ?_) AllReadyIn.nil)
              go_simp
              refine hK _ _ ?_
              clear hK K
              refine wpAnyIn_done (by kernel_rfl) ?_ _
              have A3 := Lib.hid (later_arr A1.out ⟨r2.W, HB2.out⟩)
              have hk4 := hk1 ⟨r2.W, HB2.out⟩
              gi_wp2
              refine ⟨(Outside.of_below HB2.out).trans' (Outside.of_grown (V := fun q => q < bb + 1) (row := some bb) (grownBy_setCell' _ _ _) (fun q hq => by cases hq; show bb < bb + 1; omega)) (fun _ _ h => h), _, fun q hq => .inl hq, rfl, ?_, ?_, ?_, ?_, ?_⟩
              · exact (HB.out.trans (HB2.out.mono (Nat.le_trans (Nat.le_of_eq HS.out) HB.out.size))).setCell (p := ⟨bb, 0, none⟩) (Nat.le_of_lt hsb) _
              · rw [World.cell?_of_block (Below.heap_setCell _ _ _ _ (show s ≠ bb by omega))]; exact hk4
              · exact A3.out.setOther (a := ⟨bb, 0, none⟩) (Nat.ne_of_lt hbtl) _
              · rw [BY.out, ← QBV.out, ← QV1.out]; exact World.cell?_setCell_same' _ _ _ (by rw [hb3]; rfl)
              · simpa using hf3
            · have hq2 : (ls == (y : Int)) = false := by simpa using he
              have BY := Lib.hid (bestL_no (n := n) (Z := Z) (b := 0) (LL := pre) (fun e => he (QLS.out.symm.trans e)))
              clear he
              gi_wp2
              refine region_later_tail 8 0 #[true, true, true, true, true, true, true, true] #[false, false, false, false, false, false, false, false] (by kernel_rfl) rfl (by kernel_rfl) (by kernel_rfl) (by kernel_rfl) (by kernel_rfl) ?_
              simp only [List.take_succ_cons, List.take_zero]
              repeat go_big_quiet_step (fail)
              refine wpQuiet_nil ?_
              rintro _ ⟨r, rfl⟩
              refine wpAnyIn_done (by kernel_rfl) ?_ _
              have hblt : bb < Wx.heap.size := World.block_lt_of_cell? _ _ C2.out
              have R0 := Lib.hid (show Outside (fun q => q < bb + 1) Wx r.W ∧ Below s w r.W ∧ r.W.cell? ⟨s, 0, none⟩ = some (.int .i64 y) ∧ ArrAt r.W bt 58 25 (rateF n L Z) ∧ r.W.cell? ⟨bb, 0, none⟩ = some (.int .i64 bv) ∧ r.W.frozen? ⟨bb, 0, none⟩ = false from
                ⟨Outside.of_below r.h, HB.out.trans (r.h.mono (Nat.le_trans (Nat.le_of_eq HS.out) HB.out.size)), hk1 r, later_arr A1.out r, later_cell C2.out r, (World.frozen?_of_block (w := Wx) (r.h.block bb hblt)).trans F1.out⟩)
              gi_wp2
              obtain ⟨q1, q2, q3, q4, q5, q6⟩ := R0.out
              exact ⟨q1, _, fun q hq => .inl hq, rfl, q2, q3, q4, by rw [BY.out, ← QBV.out]; exact q5, q6⟩
      · have T3 := Lib.hid (tt_no h2)
        have T4 := Lib.hid (tt_no (show ¬ TwoOk n L Z i k from fun h => h2 h.2.2))
        have T5 := Lib.hid (bestAns_no (show ¬ TwoOk n L Z i k from fun h => h2 h.2.2))
        clear h1 h2 hx1 hx2
        gi_wp2_with (first
          | (gi_at_call 52; refine (callsIn_wide.2 H1.out).mono ?_; rintro e w0 ⟨rfl, hb0⟩; rw [T1.out]; simp only [World.size_alloc] at hb0; have hz0 : w.heap.size + 1 ≤ w0.heap.size := by have := hb0.size; simpa using this)
          | ((with_reducible refine arrI_alloc 25 _ (Try.zeroRates _) ?_); intro w1 hA1 hs1 hb1; have S1 := Lib.hid hs1; clear hs1)
          | ((with_reducible refine arrI_store 25 _ _ _ _ _ _ (rateF n L Z) ?_ ?_ hA1 Try.sizeRates ?_); exact rfl; exact rfl; intro w2 hA2 hs2 ho2 hb2; clear hA1; have B2 := Lib.hid ((hb0.trans (hb1.mono hz0)).trans (hb2.mono hz0)); have Z2 := Lib.hid (show w.heap.size + 1 ≤ w2.heap.size by have := hb1.size; omega); have CK := (B2.out.cell (p := ⟨w.heap.size, 0, none⟩) (show w.heap.size < w.heap.size + 1 by omega)).trans (show _ = some (.int .i64 k) by simp); clear hb0 hb1 hb2 hs2 ho2 hz0)
          | ((with_reducible refine arrI_load_g 25 _ _ _ _ _ (some _) _ _ ?_ ?_ hA2 Try.underlying58 Try.sizeRates ?_); exact rfl; exact rfl)
          | (have _t := t1; gi_at_call 58; refine (callsIn_wide.2 (has_any n _ _ _ HK.out)).mono ?_; clear t1; rintro e w3 ⟨rfl, hb3⟩; rw [T2.out]; have hA3 := hA2.below hA2.lt hb3; clear hA2; have hA2 := hA3; clear hA3; have B3 := Lib.hid (B2.out.trans (hb3.mono Z2.out)); have Z3 := Lib.hid (Nat.le_trans Z2.out hb3.size); have CK3 := (hb3.cell (p := ⟨w.heap.size, 0, none⟩) Z2.out).trans CK; clear CK; have CK := CK3; clear CK3 hb3)
          | (have _t := t2; gi_at_call 58; refine (callsIn_wide.2 (has_any n _ _ _ HK.out)).mono ?_; clear t2; rintro e w4 ⟨rfl, hb4⟩; rw [T3.out]; have hA4 := hA2.below hA2.lt hb4; clear hA2; have hA2 := hA4; clear hA4; have B4 := Lib.hid (B3.out.trans (hb4.mono Z3.out)); have Z4 := Lib.hid (Nat.le_trans Z3.out hb4.size); have CK4 := (hb4.cell (p := ⟨w.heap.size, 0, none⟩) Z3.out).trans CK; clear CK; have CK := CK4; clear CK4 hb4))
        refine ⟨_, results_tmp2 rfl _ _ _, ?_, (below_alloc (Below.refl _ w) _).trans (B4.out.mono (by omega))⟩
        rw [T4.out, T5.out]; rfl
    · have T2 := Lib.hid (tt_no h1)
      have T4 := Lib.hid (tt_no (show ¬ TwoOk n L Z i k from fun h => h1 h.2.1))
      have T5 := Lib.hid (bestAns_no (show ¬ TwoOk n L Z i k from fun h => h1 h.2.1))
      clear h1 hx1 hx2
      gi_wp2_with (first
        | (gi_at_call 52; refine (callsIn_wide.2 H1.out).mono ?_; rintro e w0 ⟨rfl, hb0⟩; rw [T1.out]; simp only [World.size_alloc] at hb0; have hz0 : w.heap.size + 1 ≤ w0.heap.size := by have := hb0.size; simpa using this)
        | ((with_reducible refine arrI_alloc 25 _ (Try.zeroRates _) ?_); intro w1 hA1 hs1 hb1; have S1 := Lib.hid hs1; clear hs1)
        | ((with_reducible refine arrI_store 25 _ _ _ _ _ _ (rateF n L Z) ?_ ?_ hA1 Try.sizeRates ?_); exact rfl; exact rfl; intro w2 hA2 hs2 ho2 hb2; clear hA1; have B2 := Lib.hid ((hb0.trans (hb1.mono hz0)).trans (hb2.mono hz0)); have Z2 := Lib.hid (show w.heap.size + 1 ≤ w2.heap.size by have := hb1.size; omega); have CK := (B2.out.cell (p := ⟨w.heap.size, 0, none⟩) (show w.heap.size < w.heap.size + 1 by omega)).trans (show _ = some (.int .i64 k) by simp); clear hb0 hb1 hb2 hs2 ho2 hz0)
        | ((with_reducible refine arrI_load_g 25 _ _ _ _ _ (some _) _ _ ?_ ?_ hA2 Try.underlying58 Try.sizeRates ?_); exact rfl; exact rfl)
        | (have _t := t1; gi_at_call 58; refine (callsIn_wide.2 (has_any n _ _ _ HK.out)).mono ?_; clear t1; rintro e w3 ⟨rfl, hb3⟩; rw [T2.out]; have hA3 := hA2.below hA2.lt hb3; clear hA2; have hA2 := hA3; clear hA3; have B3 := Lib.hid (B2.out.trans (hb3.mono Z2.out)); have Z3 := Lib.hid (Nat.le_trans Z2.out hb3.size); have CK3 := (hb3.cell (p := ⟨w.heap.size, 0, none⟩) Z2.out).trans CK; clear CK; have CK := CK3; clear CK3 hb3))
      refine ⟨_, results_tmp2 rfl _ _ _, ?_, (below_alloc (Below.refl _ w) _).trans (B3.out.mono (by omega))⟩
      rw [T4.out, T5.out]; rfl
  · have T1 := Lib.hid (tt_no hr)
    have T4 := Lib.hid (tt_no (show ¬ TwoOk n L Z i k from fun h => hr h.1))
    have T5 := Lib.hid (bestAns_no (show ¬ TwoOk n L Z i k from fun h => hr h.1))
    clear hr hx1 hx2
    gi_wp2_with (first
      | (gi_at_call 52; refine (callsIn_wide.2 H1.out).mono ?_; rintro e w0 ⟨rfl, hb0⟩; rw [T1.out]; simp only [World.size_alloc] at hb0; have hz0 : w.heap.size + 1 ≤ w0.heap.size := by have := hb0.size; simpa using this)
      | ((with_reducible refine arrI_alloc 25 _ (Try.zeroRates _) ?_); intro w1 hA1 hs1 hb1; have S1 := Lib.hid hs1; clear hs1)
      | ((with_reducible refine arrI_store 25 _ _ _ _ _ _ (rateF n L Z) ?_ ?_ hA1 Try.sizeRates ?_); exact rfl; exact rfl; intro w2 hA2 hs2 ho2 hb2; clear hA1; have B2 := Lib.hid ((hb0.trans (hb1.mono hz0)).trans (hb2.mono hz0)); have Z2 := Lib.hid (show w.heap.size + 1 ≤ w2.heap.size by have := hb1.size; omega); have CK := (B2.out.cell (p := ⟨w.heap.size, 0, none⟩) (show w.heap.size < w.heap.size + 1 by omega)).trans (show _ = some (.int .i64 k) by simp); clear hb0 hb1 hb2 hs2 ho2 hz0)
      | ((with_reducible refine arrI_load_g 25 _ _ _ _ _ (some _) _ _ ?_ ?_ hA2 Try.underlying58 Try.sizeRates ?_); exact rfl; exact rfl))
    refine ⟨_, results_tmp2 rfl _ _ _, ?_, (below_alloc (Below.refl _ w) _).trans (B2.out.mono (by omega))⟩
    rw [T4.out, T5.out]; rfl
end Go.Proofs.Ytmjbocgoinfamaa
