/- The program's RateRounds. -/
import Derived.Test.YtmjbocgoinfamaaGaining
import Derived.Test.YtmjbocgoinfamaaSpecRateRounds
import Derived.Test.YtmjbocgoinfamaaReadRates
namespace Go.Proofs.Ytmjbocgoinfamaa
set_option linter.unusedVariables false
open Go.RowKit
attribute [local go_sem] Oper.semAt_some wide_fn wide_round_fn

theorem below_inside {n : Nat} {V : Nat → Prop} {a b c : World} (h : Below n a b) (hin : Inside V b c) (hv : ∀ k, k < n → V k) : Below n a c :=
  ⟨hin.os.trans h.os, hin.tape.trans h.tape, hin.output.trans h.output, Nat.le_trans h.size hin.size, fun k hk => (hin.block k (hv k hk)).trans (h.block k hk)⟩
theorem frozen_inside {V : Nat → Prop} {a b : World} (hin : Inside V a b) {p : Addr} (hv : V p.block) : b.frozen? p = a.frozen? p := World.frozen?_of_block (w := a) (hin.block p.block hv)
theorem gaining_le {n : Nat} {Z : Nat → Nat → Int} (hn : n ≤ 5) : (gaining n Z).length ≤ 7776 := by
  have h1 := longer_le hn n []
  have h2 := Nat.pow_le_pow_right (show 0 < 6 by omega) hn
  exact Nat.le_trans (List.length_filter_le _ _) (Nat.le_trans h1 h2)

set_option maxRecDepth 100000 in
set_option maxHeartbeats 2000000 in
theorem rateRounds_any (n c : Nat) (a : Option Addr) (A : Nat → Option Addr) (L C : Nat → Nat) (Z : Nat → Nat → Int) (w : World) (hn0 : n ≤ 1048576) (hL0 : ∀ r, r < n → L r ≤ 1048576) (ha0 : Tab w a n A L C Z) :
    Calls Try.prog 25 #[.slice a n c] w fun e w' => e = .returned (.tuple #[.int .i64 (gainN n L Z : Nat), .bool (tt (IsRates n L Z))]) ∧ Below w.heap.size w w' := by
  have H1 := Lib.hid (readRates_any n c a A L C Z w hn0 hL0 ha0)
  clear hL0 ha0
  refine (callsIn_wide (n := 9)).1 ?_
  refine callsIn_of_wp_marks Try.func25 rfl trivial ?_ rfl
  simp only [Try.ntmps25, List.size_toArray, List.length_cons, List.length_nil, Nat.reduceAdd, Nat.reduceSub, Array.replicate_succ, Array.replicate_zero, List.push_toArray, List.append_toArray, List.nil_append, List.cons_append]
  by_cases hr : IsRates n L Z
  · have T1 := Lib.hid (tt_of hr)
    have T2 := Lib.hid (gainN_yes hr)
    have HR := Lib.hid hr
    have HK := Lib.hid (Kept.of_rates hr)
    have hn2 := hr.1.1
    have hn5 := hr.1.2
    clear hr
    gi_wp2_with (first
      | (gi_at_call 52; refine (callsIn_wide.2 H1.out).mono ?_; rintro e w0 ⟨rfl, hb0⟩; rw [T1.out])
      | ((with_reducible refine arrI_alloc 25 _ (Try.zeroRates _) ?_); intro w1 hA1 hs1 hb1; have S1 := Lib.hid hs1; clear hs1)
      | ((with_reducible refine arrI_store 25 _ _ _ _ _ _ (rateF n L Z) ?_ ?_ hA1 Try.sizeRates ?_); exact rfl; exact rfl; intro w2 hA2 hs2 ho2 hb2; clear hA1; have B2 := Lib.hid ((hb0.trans (hb1.mono hb0.size)).trans (hb2.mono hb0.size)); clear hb0 hb1 hb2 hs2 ho2)
      | ((with_reducible refine arrI_load 25 _ _ _ _ _ _ _ ?_ (hA2.below hA2.lt (below_alloc (Below.refl _ w2) (.cells #[.int .i64 0] 3))) Try.underlying58 Try.sizeRates ?_); exact rfl)
      | (gi_at_call 72; refine (callsIn_wide.2 (gaining_any _ _)).mono ?_; rintro e w4 ⟨rfl, hA4, hs4, hb4⟩; have A4 := Lib.hid hA4; have S4 := Lib.hid hs4; have B4 := Lib.hid hb4; clear hA4 hs4 hb4))
    have hw2 := B2.out.size
    have hs4 := S4.out
    have hb4 := B4.out
    simp only [World.size_alloc] at hs4 hb4
    have A5 := Lib.hid (show ArrAt w4 (w2.heap.size + 1) 58 25 (rateF n L Z) by have := A4.out; simpa using this)
    have CC := Lib.hid (show w4.cell? ⟨w2.heap.size, 0, none⟩ = some (.int .i64 0) from (hb4.cell (p := ⟨w2.heap.size, 0, none⟩) (show w2.heap.size < w2.heap.size + 1 by omega)).trans (by simp))
    have CF := Lib.hid (show w4.frozen? ⟨w2.heap.size, 0, none⟩ = false by
      rw [World.frozen?_of_block (w := w2.alloc (.cells #[.int .i64 0] 3)) (hb4.block _ (show w2.heap.size < w2.heap.size + 1 by omega))]; simp)
    have BB := Lib.hid (show Below w.heap.size w w4 from (B2.out.trans ((below_alloc (Below.refl _ w2) (.cells #[.int .i64 0] 3)).mono hw2)).trans (hb4.mono (by omega)))
    clear hb4
    obtain ⟨bc, hbc⟩ : ∃ bc, bc = w2.heap.size := ⟨_, rfl⟩
    rw [← hbc] at A5 CC CF hs4 hw2 ⊢
    clear hbc S4 B4 A4 B2 hA2
    refine wp_seq (gf := 104) (lb := #[.pointer (some ⟨bc + 1, 0, none⟩)]) (tI := 3) rfl (enters_of Try.func104 (by kernel_rfl) rfl) rfl (R := fun k => k = bc + 1) (LL := gaining n Z)
      (by rw [← gainL_gaining HR.out]; exact seq_gaining n (bc + 1) _ w4 HK.out hn2 A5.out) (fun k => k < w.heap.size ∨ k = bc) (fun k hk => by subst hk; exact ⟨fun h => by omega, A5.out.lt⟩)
      (fun V pre Wx => V = (fun k => k < w.heap.size ∨ k = bc) ∧ Below w.heap.size w Wx ∧ Wx.cell? ⟨bc, 0, none⟩ = some (.int .i64 (pre.length : Nat)) ∧ Wx.frozen? ⟨bc, 0, none⟩ = false) (fun _ _ _ _ => False) ?cI (fun c => ⟨fun _ _ _ h => h.elim, fun _ _ _ _ h => h.elim⟩) ⟨rfl, BB.out, CC.out, CF.out⟩
      (fun v a' _ => a' = { tmps := #[.slice a n c, undef, .int .i64 0, .bool false, .pointer (some ⟨w0.heap.size, 0, none⟩), .bool true, .pointer (some ⟨bc, 0, none⟩), .tuple #[.agg (cellsV 25 (rateF n L Z)), .bool true], .slice a n c, .tuple #[.agg (cellsV 25 (rateF n L Z)), .bool true], .agg (cellsV 25 (rateF n L Z)), .bool true, .bool true, .bool false, .agg (cellsV 25 (rateF n L Z)), .func (.func 104) #[] #[.pointer (some ⟨bc + 1, 0, none⟩)], v, undef, undef, undef], defers := [] })
      (fun v a' W l r o h _ => h) ?assign ?body ?done ?stop
    case cI =>
      constructor
      · rintro V pre Wx ⟨rfl, h1, h2, h3⟩ k (hk | hk)
        · exact Nat.lt_of_lt_of_le hk h1.size
        · subst hk; exact World.block_lt_of_cell? _ _ h2
      · rintro V pre A B ⟨rfl, h1, h2, h3⟩ hin
        exact ⟨rfl, below_inside h1 hin (fun k hk => .inl hk), hin.cell (p := ⟨bc, 0, none⟩) (.inr rfl) h2, (frozen_inside hin (p := ⟨bc, 0, none⟩) (.inr rfl)).trans h3⟩
    case assign =>
      intro l' v Wx K hK
      gi_wp2
      exact hK _ _ (Outside.refl _ _) (by simp)
    case body =>
      rintro l' V pre D gb cap a' Wx ⟨rfl, h1, h2, h3⟩ hpre hown hgb hV rfl
      have hlen : pre.length + 1 ≤ 7776 := by
        have := hpre.length_le
        rw [List.length_append] at this
        exact Nat.le_trans this (gaining_le hn5)
      have HB := Lib.hid h1
      clear h1 hpre hown hgb hV
      gi_wp2
      refine ⟨Outside.of_grown (row := some bc) (grownBy_setCell' _ _ _) (fun k hk => by cases hk; exact .inr rfl), _, fun k hk => .inl hk, rfl, HB.out.setCell (p := ⟨bc, 0, none⟩) (by have := HB.out.size; omega) _, ?_, ?_⟩
      · have := World.cell?_setCell_same' Wx ⟨bc, 0, none⟩ (.int .i64 ((pre.length : Int) + 1)) (by rw [h2]; rfl)
        rw [List.length_append]
        simpa using this
      · simpa using h3
    case done =>
      rintro D V Wx hD hV hnD ⟨rfl, h1, h2, h3⟩ hKD
      have HB := Lib.hid h1
      clear h1
      gi_wp2
      refine ⟨by simp, .inl ⟨_, _, rfl, run_takeDeferred hKD, ?_⟩⟩
      refine ⟨_, results_tmp2 rfl _ _ _, ?_, ?_⟩
      · rw [T1.out, T2.out]; rfl
      · exact below_inside HB.out (Inside.putObj (V := fun k => k < w.heap.size ∨ k = bc) hnD _) (fun k hk => .inl hk)
    case stop =>
      rintro D c' V pre Wx _ _ _ _ h
      exact h.elim
  · have T1 := Lib.hid (tt_no hr)
    have T2 := Lib.hid (gainN_no hr)
    clear hr
    gi_wp2_with (first
      | (gi_at_call 52; refine (callsIn_wide.2 H1.out).mono ?_; rintro e w0 ⟨rfl, hb0⟩; rw [T1.out])
      | ((with_reducible refine arrI_alloc 25 _ (Try.zeroRates _) ?_); intro w1 hA1 hs1 hb1; have S1 := Lib.hid hs1; clear hs1)
      | ((with_reducible refine arrI_store 25 _ _ _ _ _ _ (rateF n L Z) ?_ ?_ hA1 Try.sizeRates ?_); exact rfl; exact rfl; intro w2 hA2 hs2 ho2 hb2; clear hA1; have B2 := Lib.hid ((hb0.trans (hb1.mono hb0.size)).trans (hb2.mono hb0.size)); clear hb0 hb1 hb2 hs2 ho2))
    refine ⟨_, results_tmp2 rfl _ _ _, ?_, B2.out⟩
    rw [T1.out, T2.out]; rfl
end Go.Proofs.Ytmjbocgoinfamaa
