/- The program's WantTry. -/
import Derived.Test.YteigenmagifplaaGivings
import Derived.Test.YteigenmagifplaaTryModel
import Derived.Test.YteigenmagifplaaWantSteps
namespace Go.Proofs.Yteigenmagifplaa
set_option linter.unusedVariables false
set_option linter.unusedSimpArgs false
open Go.RowKit

section
variable {n : Nat} {W : Nat → Int}
/-- The greatest number of people who take something, over the givings of a list that are allowed. -/
noncomputable def permMax (n : Nat) (W : Nat → Int) (LL : List (List Int)) : Nat := LL.foldl (fun b D => if tt (AllowP n n W (nth D)) = true then max b (movedN (nth D) n) else b) 0
theorem permMax_yes {LL : List (List Int)} {D : List Int} (h : AllowP n n W (nth D)) : permMax n W (LL ++ [D]) = max (permMax n W LL) (movedN (nth D) n) := by
  unfold permMax; rw [List.foldl_append]; simp only [List.foldl_cons, List.foldl_nil]; rw [tt_of h, if_pos rfl]
theorem permMax_no {LL : List (List Int)} {D : List Int} (h : ¬ AllowP n n W (nth D)) : permMax n W (LL ++ [D]) = permMax n W LL := by
  unfold permMax; rw [List.foldl_append]; simp only [List.foldl_cons, List.foldl_nil]; rw [tt_no h, if_neg (by simp)]
theorem permMax_ge : ∀ (LL : List (List Int)) (b : Nat), b ≤ LL.foldl (fun b D => if tt (AllowP n n W (nth D)) = true then max b (movedN (nth D) n) else b) b ∧ ∀ D, D ∈ LL → AllowP n n W (nth D) → movedN (nth D) n ≤ LL.foldl (fun b D => if tt (AllowP n n W (nth D)) = true then max b (movedN (nth D) n) else b) b
  | [], b => ⟨Nat.le_refl _, fun D h => (List.not_mem_nil h).elim⟩
  | X :: LL, b => by
    obtain ⟨h1, h2⟩ := permMax_ge LL (if tt (AllowP n n W (nth X)) = true then max b (movedN (nth X) n) else b)
    refine ⟨Nat.le_trans ?_ h1, fun D hD ha => ?_⟩
    · split <;> omega
    · rcases List.mem_cons.1 hD with e | hD
      · refine Nat.le_trans ?_ h1
        rw [← e, tt_of ha, if_pos rfl]; omega
      · exact h2 D hD ha
theorem permMax_is : ∀ (LL : List (List Int)) (b : Nat), LL.foldl (fun b D => if tt (AllowP n n W (nth D)) = true then max b (movedN (nth D) n) else b) b = b ∨ ∃ D, D ∈ LL ∧ AllowP n n W (nth D) ∧ LL.foldl (fun b D => if tt (AllowP n n W (nth D)) = true then max b (movedN (nth D) n) else b) b = movedN (nth D) n
  | [], b => .inl rfl
  | X :: LL, b => by
    rcases permMax_is LL (if tt (AllowP n n W (nth X)) = true then max b (movedN (nth X) n) else b) with h | ⟨D, h1, h2, h3⟩
    · by_cases hX : AllowP n n W (nth X)
      · by_cases hb : b ≤ movedN (nth X) n
        · right
          refine ⟨X, by simp, hX, ?_⟩
          show LL.foldl _ (if tt (AllowP n n W (nth X)) = true then max b (movedN (nth X) n) else b) = _
          rw [h, tt_of hX, if_pos rfl]; omega
        · left
          show LL.foldl _ (if tt (AllowP n n W (nth X)) = true then max b (movedN (nth X) n) else b) = _
          rw [h, tt_of hX, if_pos rfl]; omega
      · left
        show LL.foldl _ (if tt (AllowP n n W (nth X)) = true then max b (movedN (nth X) n) else b) = _
        rw [h, tt_no hX, if_neg (by simp)]
    · exact .inr ⟨D, by simp [h1], h2, h3⟩
theorem permMax_le (LL : List (List Int)) : permMax n W LL ≤ n := by
  rcases permMax_is (n := n) (W := W) LL 0 with h | ⟨D, _, _, h⟩
  · unfold permMax; rw [h]; omega
  · unfold permMax; rw [h]; exact movedN_le _ _
theorem perm_allow {D : List Int} (hd : Diff n D) (hl : D.length = n) : PermOk n W D ↔ AllowP n n W (nth D) := by
  have hd' : IsDiff n n (nth D) := by have := hd; unfold Diff at this; rwa [hl] at this
  exact ⟨fun h => h.2.2, fun h => ⟨hl, hd', h⟩⟩
theorem permMax_all (hW : IsWants n W) : permMax n W (givs n n []) = mostN' n W n := by
  have hm : ∀ D, D ∈ givs n n [] ↔ Diff n D ∧ D.length = n := fun D => by
    rw [mem_givs n [] (Diff.nil n) (by simp)]
    exact ⟨fun h => ⟨h.1, h.2.1⟩, fun h => ⟨h.1, h.2, List.nil_prefix⟩⟩
  have h1 : permMax n W (givs n n []) ≤ mostN' n W n := by
    rcases permMax_is (n := n) (W := W) (givs n n []) 0 with h | ⟨D, hD, ha, h⟩
    · unfold permMax; rw [h]; omega
    · unfold permMax; rw [h]
      obtain ⟨h2, h3⟩ := (hm D).1 hD
      exact perm_most hW ((perm_allow h2 h3).2 ha)
  obtain ⟨U, hU⟩ := best_taken hW n
  have hp := hU.perm
  have h2 : Diff n (bestL n W n) := by unfold Diff; rw [hp.1]; exact hp.2.1
  have h3 := (permMax_ge (n := n) (W := W) (givs n n []) 0).2 _ ((hm _).2 ⟨h2, hp.1⟩) ((perm_allow h2 hp.1).1 hp)
  have h4 : movedN (nth (bestL n W n)) n = mostN' n W n := rfl
  have h5 : permMax n W (givs n n []) = (givs n n []).foldl (fun b D => if tt (AllowP n n W (nth D)) = true then max b (movedN (nth D) n) else b) 0 := rfl
  omega
end
attribute [local go_sem] Oper.semAt_some wide_fn wide_round_fn

set_option maxRecDepth 100000 in
set_option maxHeartbeats 2000000 in
theorem wantTry_all (n c : Nat) (a : Option Addr) (W : Nat → Int) (w : World) (hm0 : n ≤ 1048576) (hb0 : Rd w a n W) :
    Calls Try.prog 24 #[.slice a n c] w fun e w' => e = .returned (.tuple #[.int .i64 (tryAns n W), .bool (tt (IsWants n W))]) ∧ Below w.heap.size w w' := by
  have H := Lib.hid (readWants_any n c a W w hm0 hb0)
  have HNO := Lib.hid (readWants_no n c a W w hm0 hb0)
  clear hb0
  refine (callsIn_wide (n := 9)).1 ?_
  refine callsIn_of_wp_marks Try.func24 rfl trivial ?_ rfl
  simp only [Try.ntmps24, List.size_toArray, List.length_cons, List.length_nil, Nat.reduceAdd, Nat.reduceSub, Array.replicate_succ, Array.replicate_zero, List.push_toArray, List.append_toArray, List.nil_append, List.cons_append]
  by_cases h1 : IsWants n W
  · have T1 := Lib.hid (tt_of h1)
    have TN := Lib.hid (tryAns_yes h1)
    have TM := Lib.hid (permMax_all h1)
    have HW := Lib.hid h1
    have hn2 := h1.1.1
    have hn6 := h1.1.2
    clear h1
    gi_wp2_with (first
      | (gi_at_call 37; refine (callsIn_wide.2 H.out).mono ?_; rintro e w1 ⟨v, rfl, hv, hb1⟩; rw [T1.out]; obtain ⟨g, rfl, hg1, hg2, hr⟩ := hv HW.out; have B1 := Lib.hid hb1; have R1 := Lib.hid hr; clear hb1 hr)
      | (gi_at_call 51; refine (callsIn_wide.2 (givings_any _ _)).mono ?_; rintro e w2 ⟨rfl, rfl⟩))
    obtain ⟨s, hs⟩ : ∃ s, s = w1.heap.size := ⟨_, rfl⟩
    obtain ⟨w4, hw4⟩ : ∃ w4, w4 = ((w1.alloc (.cells #[.slice (some ⟨g, 0, none⟩) n n] 40)).alloc (.cells #[.int .i64 0] 3)).alloc (.cells #[.int .i64 n] 3) := ⟨_, rfl⟩
    rw [← hw4, ← hs]
    have hB0 : Below w1.heap.size w1 w4 := by rw [hw4]; exact below_alloc (below_alloc (below_alloc (Below.refl _ w1) _) _) _
    have hs4 : w4.heap.size = s + 3 := by rw [hw4, hs]; simp
    have CW := Lib.hid (show w4.cell? ⟨s, 0, none⟩ = some (.slice (some ⟨g, 0, none⟩) n n) by rw [hw4, hs, World.cell?_of_block (w := (w1.alloc _).alloc _) (Below.heap_alloc _ _ _ (by simp; omega)), World.cell?_of_block (w := w1.alloc _) (Below.heap_alloc _ _ _ (by simp))]; simp)
    have CC := Lib.hid (show w4.cell? ⟨s + 1, 0, none⟩ = some (.int .i64 0) by rw [hw4, hs, World.cell?_of_block (w := (w1.alloc _).alloc _) (Below.heap_alloc _ _ _ (by simp))]; simp)
    have CF := Lib.hid (show w4.frozen? ⟨s + 1, 0, none⟩ = false by rw [hw4, hs, World.frozen?_of_block (w := (w1.alloc _).alloc _) (Below.heap_alloc _ _ _ (by simp))]; simp)
    have e2 : s + 1 + 1 = ((w1.alloc (.cells #[.slice (some ⟨g, 0, none⟩) n n] 40)).alloc (.cells #[.int .i64 0] 3)).heap.size := by simp [hs]
    have CN := Lib.hid (show w4.cell? ⟨s + 1 + 1, 0, none⟩ = some (.int .i64 n) by rw [hw4, e2, World.cell?_alloc_new]; rfl)
    clear e2
    have HB0 := Lib.hid hB0
    have hsw : w1.heap.size ≤ s := by omega
    have hsw2 : s ≤ w1.heap.size := by omega
    have HS := Lib.hid hs
    clear hs hw4 hB0
    refine wp_seq (gf := 67) (lb := #[.pointer (some ⟨s + 1 + 1, 0, none⟩)]) (tI := 3) rfl (enters_of Try.func67 (by kernel_rfl) rfl) rfl (R := fun k => k = s + 1 + 1) (LL := givs n n [])
      (seq_givings6 n (s + 1 + 1) w4 hn2 hn6 CN.out) (fun k => k ≤ s + 1) (fun k hk => by subst hk; exact ⟨fun h => by omega, by omega⟩)
      (fun V pre Wx => V = (fun k => k ≤ s + 1) ∧ Below w1.heap.size w1 Wx ∧ Wx.cell? ⟨s, 0, none⟩ = some (.slice (some ⟨g, 0, none⟩) n n) ∧ Wx.cell? ⟨s + 1, 0, none⟩ = some (.int .i64 (permMax n W pre : Nat)) ∧ Wx.frozen? ⟨s + 1, 0, none⟩ = false) (fun _ _ _ _ => False) ?cI (fun c => ⟨fun _ _ _ h => h.elim, fun _ _ _ _ h => h.elim⟩) ⟨rfl, HB0.out, CW.out, CC.out, CF.out⟩
      (fun v a' _ => a' = { tmps := #[.slice a n c, undef, .int .i64 0, .bool false, .pointer (some ⟨s, 0, none⟩), .bool true, .pointer (some ⟨s + 1, 0, none⟩), v, .tuple #[.slice (some ⟨g, 0, none⟩) n n, .bool true], .slice a n c, .tuple #[.slice (some ⟨g, 0, none⟩) n n, .bool true], .slice (some ⟨g, 0, none⟩) n n, .bool true, .bool true, .bool false, .slice (some ⟨g, 0, none⟩) n n, .int .i64 n, .func (.func 67) #[] #[.pointer (some ⟨s + 1 + 1, 0, none⟩)], v, undef, undef, undef, undef, undef, undef, undef, undef], defers := [] })
      (fun v a' W l r o h _ => h) ?assign ?body ?done ?stop
    case cI =>
      constructor
      · rintro V pre Wx ⟨rfl, h1, h2, h3, h4⟩ k hk
        have h5 : s + 1 < Wx.heap.size := World.block_lt_of_cell? _ _ h3
        exact Nat.lt_of_le_of_lt hk h5
      · rintro V pre A B ⟨rfl, h1, h2, h3, h4⟩ hin
        exact ⟨rfl, below_inside h1 hin (fun k hk => show k ≤ s + 1 by omega), hin.cell (p := ⟨s, 0, none⟩) (show s ≤ s + 1 by omega) h2, hin.cell (p := ⟨s + 1, 0, none⟩) (Nat.le_refl _) h3, (frozen_inside hin (p := ⟨s + 1, 0, none⟩) (Nat.le_refl _)).trans h4⟩
    case assign =>
      intro l' v Wx K hK
      gi_wp2
      exact hK _ _ (Outside.refl _ _) (by first | rfl | simp)
    case body =>
      rintro l' V pre D gb cap a' Wx ⟨rfl, h1, h2, h3, h4⟩ hpre hown hgb hV rfl
      have hmem : D ∈ givs n n [] := by obtain ⟨z, hz⟩ := hpre; rw [← hz]; simp
      obtain ⟨hDd, hDl, _⟩ := (mem_givs n [] (Diff.nil n) (by simp) _).1 hmem
      have hD' : IsDiff n n (nth D) := by have := hDd; unfold Diff at this; rwa [hDl] at this
      obtain ⟨N, hN⟩ : ∃ N, N = permMax n W pre := ⟨_, rfl⟩
      have hNn : N ≤ n := by rw [hN]; exact permMax_le _
      rw [← hN] at h3
      have QN := Lib.hid hN
      have hrd : Rd Wx (some ⟨gb, 0, none⟩) n (nth D) := by have := owns_rd hown; rwa [hDl] at this
      have HRD := Lib.hid hrd
      have HB := Lib.hid h1
      have hws : Rd Wx (some ⟨g, 0, none⟩) n W := R1.out.below (Nat.le_refl _) h1
      have HAL := Lib.hid (allows_any n n cap (some ⟨g, 0, none⟩) (some ⟨gb, 0, none⟩) W (nth D) Wx HW.out (fun i hi => hD'.1 i hi) hws hrd)
      obtain ⟨M, hM⟩ : ∃ M, M = movedN (nth D) n := ⟨_, rfl⟩
      have hMn : M ≤ n := by rw [hM]; exact movedN_le _ _
      have HTK := Lib.hid (fun r : Later Wx => (show Calls Try.prog 47 #[.slice (some ⟨gb, 0, none⟩) n cap] r.W fun e w' => e = .returned (.int .i64 (M : Nat)) ∧ Below r.W.heap.size r.W w' from by
        rw [hM]
        exact (takers_any n cap (some ⟨gb, 0, none⟩) (nth D) r.W (by omega) (HRD.out.below (Nat.le_refl _) r.h)).mono fun e w' ⟨he, hw⟩ => ⟨he, by rw [← hw]; exact Below.refl _ _⟩))
      have QM := Lib.hid hM
      rw [hDl]
      obtain ⟨B, hBq⟩ : ∃ B, B = tt (AllowP n n W (nth D)) := ⟨_, rfl⟩
      rw [← hBq] at HAL
      have QB := Lib.hid hBq
      have C2 := Lib.hid h2
      have C3 := Lib.hid h3
      have F4 := Lib.hid h4
      clear h1 hown hgb hV hN hrd hmem hpre hDl hDd hD' hws hM hBq h3
      by_cases hS : AllowP n n W (nth D)
      · have E1 := Lib.hid (show B = true by rw [QB.out]; exact tt_of hS)
        have E2 := Lib.hid (show permMax n W (pre ++ [D]) = max N M by rw [permMax_yes hS, ← QN.out, ← QM.out])
        clear hS
        gi_wp2_with (gi_at_call 41; refine (callsIn_wide.2 HAL.out).mono ?_; rintro e w' ⟨rfl, rfl⟩; rw [E1.out])
        have hk3 : ∀ r : Later Wx, r.W.cell? ⟨s + 1, 0, none⟩ = some (.int .i64 N) := fun r => later_cell C3.out r
        refine region_later_tail 4 1 #[true, true, true, true, false] #[false, false, false, false, true] (by kernel_rfl) rfl (by kernel_rfl) (by kernel_rfl) (by kernel_rfl) (by kernel_rfl) ?_
        simp only [List.take_succ_cons, List.take_zero]
        repeat (quiet_step ((go_at_call 47; exact calls_later _ (HTK.out _))))
        refine wpQuiet_nil ?_
        rintro _ ⟨r, rfl⟩
        have c2 : r.W.cell? ⟨s, 0, none⟩ = some (.slice (some ⟨g, 0, none⟩) n n) := later_cell C2.out r
        have c3 := hk3 r
        have hlt : s + 1 < Wx.heap.size := World.block_lt_of_cell? _ _ C3.out
        have f3 : r.W.frozen? ⟨s + 1, 0, none⟩ = false := (World.frozen?_of_block (w := Wx) (r.h.block (s + 1) hlt)).trans F4.out
        have HR := Lib.hid (HB.out.trans (r.h.mono HB.out.size))
        have HO := Lib.hid (show Outside (fun k => k ≤ s + 1) Wx r.W from Outside.of_below r.h)
        refine wpAnyIn_ready (rs := [4]) (by kernel_rfl) (by simp) (AllReadyIn.cons rfl (fun K hK => ?_) AllReadyIn.nil)
        go_simp
        refine hK _ _ ?_
        clear hK K hk3
        refine wpAnyIn_done (by kernel_rfl) ?_ _
        gi_wp2
        refine ⟨HO.out.trans' (Outside.of_grown (V := fun k => k ≤ s + 1) (row := some (s + 1)) (grownBy_setCell' _ _ _) (fun k hk => by cases hk; exact Nat.le_refl _)) (fun _ _ h => h), _, fun k hk => .inl hk, rfl, HR.out.setCell (p := ⟨s + 1, 0, none⟩) (by show w1.heap.size ≤ s + 1; omega) _, ?_, ?_, frozen_set f3⟩
        · rw [World.cell?_of_block (Below.heap_setCell _ _ _ _ (show s ≠ s + 1 by omega))]; exact c2
        · rw [E2.out, show ((max N M : Nat) : Int) = max (N : Int) (M : Int) by omega]
          exact World.cell?_setCell_same' r.W ⟨s + 1, 0, none⟩ (.int .i64 (max (N : Int) (M : Int))) (by rw [c3]; rfl)
      · have E1 := Lib.hid (show B = false by rw [QB.out]; exact tt_no hS)
        have E2 := Lib.hid (show permMax n W (pre ++ [D]) = N by rw [permMax_no hS, ← QN.out])
        clear hS
        gi_wp2_with (gi_at_call 41; refine (callsIn_wide.2 HAL.out).mono ?_; rintro e w' ⟨rfl, rfl⟩; rw [E1.out])
        exact ⟨Outside.refl _ _, _, fun k hk => .inl hk, rfl, HB.out, C2.out, by rw [E2.out]; exact C3.out, F4.out⟩
    case done =>
      rintro D V Wx hD hV hnD ⟨rfl, h1, h2, h3, h4⟩ hKD
      rw [TM.out] at h3
      have HB := Lib.hid h1
      clear h1
      gi_wp2
      refine ⟨by simp, .inl ⟨_, _, rfl, run_takeDeferred hKD, ?_⟩⟩
      refine ⟨_, results_tmp2 rfl _ _ _, ?_, ?_⟩
      · rw [T1.out, TN.out]; rfl
      · exact B1.out.trans ((below_inside HB.out (Inside.putObj (V := fun k => k ≤ s + 1) hnD _) (fun k hk => show k ≤ s + 1 by omega)).mono B1.out.size)
    case stop =>
      rintro D c' V pre Wx _ _ _ _ h
      exact h.elim
  · have T1 := Lib.hid (tt_no h1)
    have TN := Lib.hid (tryAns_no h1)
    have HN := Lib.hid (HNO.out h1)
    clear h1
    gi_wp2_with (gi_at_call 37; refine (callsIn_wide.2 HN.out).mono ?_; rintro e w1 ⟨rfl, hb1⟩; have B1 := Lib.hid hb1; clear hb1)
    refine ⟨_, results_tmp2 rfl _ _ _, ?_, ?_⟩
    · rw [T1.out, TN.out]; rfl
    · first | exact below_alloc B1.out _ | (simp only [World.setCell]; exact below_alloc B1.out _)
theorem wantTry_any (n c : Nat) (a : Option Addr) (W : Nat → Int) (w : World) (hm0 : n ≤ 1048576) (hmd0 : n ≤ c) (hb0 : Rd w a n W) :
    Calls Try.prog 24 #[.slice a n c] w fun e w' => e = .returned (.tuple #[.int .i64 (tryAns n W), .bool (tt (IsWants n W))]) ∧ Below w.heap.size w w' :=
  wantTry_all n c a W w hm0 hb0
end Go.Proofs.Yteigenmagifplaa
