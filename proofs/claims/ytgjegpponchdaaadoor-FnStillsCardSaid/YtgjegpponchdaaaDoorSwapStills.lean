/- The program's SwapStills. -/
import Derived.Test.YtgjegpponchdaaaDoorGivings
import Derived.Test.YtgjegpponchdaaaDoorStill
import Derived.Test.YtgjegpponchdaaaDoorStillN
namespace Go.Proofs.YtgjegpponchdaaaDoor
set_option linter.unusedVariables false
set_option linter.unusedSimpArgs false
open Go.RowKit
attribute [local go_sem] Oper.semAt_some wide_fn wide_round_fn

set_option maxRecDepth 100000 in
set_option maxHeartbeats 2000000 in
theorem swapStills_any (n c : Nat) (a : Option Addr) (A : Nat → Option Addr) (L C : Nat → Nat) (Z : Nat → Nat → Int) (w : World) (hn0 : n ≤ 1048576) (hL0 : ∀ r, r < n → L r ≤ 1048576) (ha0 : Tab w a n A L C Z) :
    Calls Tryd.prog 25 #[.slice a n c] w fun e w' => e = .returned (.tuple #[.int .i64 (stillN n L Z : Nat), .bool (tt (IsWishes n L Z))]) ∧ Below w.heap.size w w' := by
  have H := Lib.hid (readWishes_any n c a A L C Z w hn0 hL0 ha0)
  refine (callsIn_wide (n := 9)).1 ?_
  refine callsIn_of_wp_marks Tryd.func25 rfl trivial ?_ rfl
  simp only [Tryd.ntmps25, List.size_toArray, List.length_cons, List.length_nil, Nat.reduceAdd, Nat.reduceSub, Array.replicate_succ, Array.replicate_zero, List.push_toArray, List.append_toArray, List.nil_append, List.cons_append]
  by_cases h1 : IsWishes n L Z
  · have T1 := Lib.hid (tt_of h1)
    have TN := Lib.hid (stillN_yes h1)
    have HW := Lib.hid h1
    have HA := Lib.hid ha0
    have hn2 := h1.1.1
    have hn5 := h1.1.2
    clear h1 ha0 hL0
    gi_wp2_with (first
      | (gi_at_call 39; refine (callsIn_wide.2 H.out).mono ?_; rintro e w' ⟨rfl, rfl⟩; rw [T1.out])
      | (gi_at_call 46; refine (callsIn_wide.2 (givings_any _ _)).mono ?_; rintro e w2 ⟨rfl, rfl⟩))
    obtain ⟨s, hs⟩ : ∃ s, s = w.heap.size := ⟨_, rfl⟩
    obtain ⟨w4, hw4⟩ : ∃ w4, w4 = ((w.alloc (.cells #[.slice a n c] 43)).alloc (.cells #[.int .i64 0] 3)).alloc (.cells #[.int .i64 n] 3) := ⟨_, rfl⟩
    rw [← hw4, ← hs]
    have hB0 : Below w.heap.size w w4 := by rw [hw4]; exact below_alloc (below_alloc (below_alloc (Below.refl _ w) _) _) _
    have hs4 : w4.heap.size = s + 3 := by rw [hw4, hs]; simp
    have CW := Lib.hid (show w4.cell? ⟨s, 0, none⟩ = some (.slice a n c) by rw [hw4, hs, World.cell?_of_block (w := (w.alloc _).alloc _) (Below.heap_alloc _ _ _ (by simp; omega)), World.cell?_of_block (w := w.alloc _) (Below.heap_alloc _ _ _ (by simp))]; simp)
    have CC := Lib.hid (show w4.cell? ⟨s + 1, 0, none⟩ = some (.int .i64 0) by rw [hw4, hs, World.cell?_of_block (w := (w.alloc _).alloc _) (Below.heap_alloc _ _ _ (by simp))]; simp)
    have CF := Lib.hid (show w4.frozen? ⟨s + 1, 0, none⟩ = false by rw [hw4, hs, World.frozen?_of_block (w := (w.alloc _).alloc _) (Below.heap_alloc _ _ _ (by simp))]; simp)
    have e2 : s + 1 + 1 = ((w.alloc (.cells #[.slice a n c] 43)).alloc (.cells #[.int .i64 0] 3)).heap.size := by simp [hs]
    have CN := Lib.hid (show w4.cell? ⟨s + 1 + 1, 0, none⟩ = some (.int .i64 n) by rw [hw4, e2, World.cell?_alloc_new]; rfl)
    clear e2
    have HB0 := Lib.hid hB0
    have hsw : w.heap.size ≤ s := by omega
    have hsw2 : s ≤ w.heap.size := by omega
    have HS := Lib.hid hs
    clear hs hw4 hB0
    refine wp_seq (gf := 71) (lb := #[.pointer (some ⟨s + 1 + 1, 0, none⟩)]) (tI := 3) rfl (enters_of Tryd.func71 (by kernel_rfl) rfl) rfl (R := fun k => k = s + 1 + 1) (LL := givs n n [])
      (seq_givings n (s + 1 + 1) w4 hn2 hn5 CN.out) (fun k => k ≤ s + 1) (fun k hk => by subst hk; exact ⟨fun h => by omega, by omega⟩)
      (fun V pre Wx => V = (fun k => k ≤ s + 1) ∧ Below w.heap.size w Wx ∧ Wx.cell? ⟨s, 0, none⟩ = some (.slice a n c) ∧ Wx.cell? ⟨s + 1, 0, none⟩ = some (.int .i64 ((stillL n Z pre).length : Nat)) ∧ Wx.frozen? ⟨s + 1, 0, none⟩ = false) (fun _ _ _ _ => False) ?cI (fun c => ⟨fun _ _ _ h => h.elim, fun _ _ _ _ h => h.elim⟩) ⟨rfl, HB0.out, CW.out, CC.out, CF.out⟩
      (fun v a' _ => a' = { tmps := #[.slice a n c, undef, .int .i64 0, .bool false, .pointer (some ⟨s, 0, none⟩), .bool true, .pointer (some ⟨s + 1, 0, none⟩), v, .tuple #[.slice a n c, .bool true], .slice a n c, .tuple #[.slice a n c, .bool true], .slice a n c, .bool true, .bool true, .bool false, .slice a n c, .int .i64 n, .func (.func 71) #[] #[.pointer (some ⟨s + 1 + 1, 0, none⟩)], v, undef, undef, undef, undef, undef, undef, undef], defers := [] })
      (fun v a' W l r o h _ => h) ?assign ?body ?done ?stop
    case cI =>
      constructor
      · rintro V pre Wx ⟨rfl, h1, h2, h3, h4⟩ k hk
        have h5 : s + 1 < Wx.heap.size := World.block_lt_of_cell? _ _ h3
        exact Nat.lt_of_le_of_lt hk h5
      · rintro V pre A B ⟨rfl, h1, h2, h3, h4⟩ hin
        exact ⟨rfl, below_inside h1 hin (fun k hk => show k ≤ s + 1 by omega), hin.cell (p := ⟨s, 0, none⟩) (show s ≤ s + 1 by omega) h2, hin.cell (p := ⟨s + 1, 0, none⟩) (Nat.le_refl _) h3, (frozen_inside hin (p := ⟨s + 1, 0, none⟩) (Nat.le_refl _)).trans h4⟩
    case assign =>
      intro l' v Wx K hK
      gi_wp2
      exact hK _ _ (Outside.refl _ _) (by first | rfl | simp)
    case body =>
      rintro l' V pre D gb cap a' Wx ⟨rfl, h1, h2, h3, h4⟩ hpre hown hgb hV rfl
      have hmem : D ∈ givs n n [] := by obtain ⟨z, hz⟩ := hpre; rw [← hz]; simp
      have hlen : (stillL n Z pre).length + 1 ≤ 7777 := by
        have h7 := hpre.length_le
        rw [List.length_append] at h7
        have := stillL_le n Z pre
        have := givsAll_le hn5
        simp at h7; omega
      have hDl := ((mem_givs n [] (Diff.nil n) (by simp) _).1 hmem).2.1
      obtain ⟨N, hN⟩ : ∃ N, N = (stillL n Z pre).length := ⟨_, rfl⟩
      rw [← hN] at h3 hlen
      have QN := Lib.hid hN
      have hrd : Rd Wx (some ⟨gb, 0, none⟩) n (nth D) := by have := owns_rd hown; rwa [hDl] at this
      have hTW : Tab Wx a n A L C Z := HA.out.below (Nat.le_refl _) h1
      have HRD := Lib.hid hrd
      have HTW := Lib.hid hTW
      have HB := Lib.hid h1
      have QD := Lib.hid hDl
      rw [hDl]
      clear h1 hown hgb hV hN hrd hTW hmem hpre hDl
      have hcw : ∀ r : Later Wx, r.W.cell? ⟨s, 0, none⟩ = some (.slice a n c) := fun r => later_cell h2 r
      have HOLD := Lib.hid (fun r : Later Wx => (show Calls Tryd.prog 48 #[.slice (some ⟨gb, 0, none⟩) n cap] r.W fun e w' => e = .returned (.agg (cellsV 6 (heldF n (nth D)))) ∧ Below r.W.heap.size r.W w' from hold_any n cap _ (nth D) _ (by omega) hn5 (HRD.out.below (Nat.le_refl _) r.h)))
      obtain ⟨B, hBq⟩ : ∃ B, B = tt (StillP n Z (nth D)) := ⟨_, rfl⟩
      have QB := Lib.hid hBq
      have HSTILL := Lib.hid (fun r : Later Wx => (show Calls Tryd.prog 47 #[.slice a n c, .agg (cellsV 6 (heldF n (nth D)))] r.W fun e w' => e = .returned (.bool B) ∧ Below r.W.heap.size r.W w' from by rw [QB.out]; exact still_any n c a A L C Z (nth D) _ HW.out (HTW.out.below (Nat.le_refl _) r.h)))
      clear hBq
      gi_wp2
      refine region_later_tail 4 0 #[true, true, true, true] #[false, false, false, false] (by kernel_rfl) rfl (by kernel_rfl) (by kernel_rfl) (by kernel_rfl) (by kernel_rfl) ?_
      simp only [List.take_succ_cons, List.take_zero]
      repeat (quiet_step ((first
            | (go_at_call 48; exact calls_later _ (HOLD.out _))
            | (go_at_call 47; exact calls_later _ (HSTILL.out _)))))
      refine wpQuiet_nil ?_
      rintro _ ⟨r, rfl⟩
      have c2 := hcw r
      have c3 : r.W.cell? ⟨s + 1, 0, none⟩ = some (.int .i64 N) := later_cell h3 r
      have hlt : s + 1 < Wx.heap.size := World.block_lt_of_cell? _ _ h3
      have f3 : r.W.frozen? ⟨s + 1, 0, none⟩ = false := (World.frozen?_of_block (w := Wx) (r.h.block (s + 1) hlt)).trans h4
      have HR := Lib.hid (HB.out.trans (r.h.mono HB.out.size))
      have HO := Lib.hid (show Outside (fun k => k ≤ s + 1) Wx r.W from Outside.of_below r.h)
      refine wpAnyIn_done (by kernel_rfl) ?_ _
      clear hcw HOLD HSTILL
      by_cases hS : StillP n Z (nth D)
      · have E1 := Lib.hid (show B = true by rw [QB.out]; exact tt_of hS)
        have E2 := Lib.hid (show (stillL n Z (pre ++ [D])).length = N + 1 by rw [stillL_yes hS, List.length_append, ← QN.out]; rfl)
        clear hS
        rw [E1.out]
        gi_wp2
        refine ⟨HO.out.trans' (Outside.of_grown (V := fun k => k ≤ s + 1) (row := some (s + 1)) (grownBy_setCell' _ _ _) (fun k hk => by cases hk; exact Nat.le_refl _)) (fun _ _ h => h), _, fun k hk => .inl hk, rfl, HR.out.setCell (p := ⟨s + 1, 0, none⟩) (by show w.heap.size ≤ s + 1; omega) _, ?_, ?_, frozen_set f3⟩
        · rw [World.cell?_of_block (Below.heap_setCell _ _ _ _ (show s ≠ s + 1 by omega))]; exact c2
        · rw [E2.out]
          have := World.cell?_setCell_same' r.W ⟨s + 1, 0, none⟩ (.int .i64 ((N : Int) + 1)) (by rw [c3]; rfl)
          simpa using this
      · have E1 := Lib.hid (show B = false by rw [QB.out]; exact tt_no hS)
        have E2 := Lib.hid (show (stillL n Z (pre ++ [D])).length = N by rw [stillL_no hS, ← QN.out])
        clear hS
        rw [E1.out]
        gi_wp2
        exact ⟨HO.out, _, fun k hk => .inl hk, rfl, HR.out, c2, by rw [E2.out]; exact c3, f3⟩
    case done =>
      rintro D V Wx hD hV hnD ⟨rfl, h1, h2, h3, h4⟩ hKD
      have HB := Lib.hid h1
      clear h1
      gi_wp2
      refine ⟨by simp, .inl ⟨_, _, rfl, run_takeDeferred hKD, ?_⟩⟩
      refine ⟨_, results_tmp2 rfl _ _ _, ?_, ?_⟩
      · rw [T1.out, TN.out]; rfl
      · exact below_inside HB.out (Inside.putObj (V := fun k => k ≤ s + 1) hnD _) (fun k hk => show k ≤ s + 1 by omega)
    case stop =>
      rintro D c' V pre Wx _ _ _ _ h
      exact h.elim
  · have T1 := Lib.hid (tt_no h1)
    have TN := Lib.hid (stillN_no h1)
    clear h1 ha0 hL0
    gi_wp2_with (gi_at_call 39; refine (callsIn_wide.2 H.out).mono ?_; rintro e w' ⟨rfl, rfl⟩; rw [T1.out])
    refine ⟨_, results_tmp2 rfl _ _ _, ?_, ?_⟩
    · rw [T1.out, TN.out]; rfl
    · first | exact below_alloc (Below.refl _ w) _ | (simp only [World.setCell]; exact below_alloc (Below.refl _ w) _)
end Go.Proofs.YtgjegpponchdaaaDoor
