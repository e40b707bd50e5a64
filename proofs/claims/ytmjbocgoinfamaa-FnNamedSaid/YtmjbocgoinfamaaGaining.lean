/- The program's gaining: the rounds that gain. -/
/- The program's rounds are the model's, in the same order. -/
import Derived.Test.YtmjbocgoinfamaaRounds
import Derived.Test.YtmjbocgoinfamaaSeq
import Derived.Test.YtmjbocgoinfamaaRoundValue
import Derived.Test.YtmjbocgoinfamaaUnitAfter
import Derived.Shelf.Abstract
import Derived.Test.YtmjbocgoinfamaaL1Rounds
namespace Go.Proofs.Ytmjbocgoinfamaa
set_option linter.unusedVariables false

section
open Go.RowKit
attribute [local go_sem] Oper.semAt_some wide_fn wide_round_fn

theorem gaining_any (F : Nat → Int) (w : World) :
    Calls Try.prog 72 #[.agg (cellsV 25 F)] w fun e w' => e = .returned (.func (.func 104) #[] #[.pointer (some ⟨w.heap.size, 0, none⟩)]) ∧ ArrAt w' w.heap.size 58 25 F ∧ w'.heap.size = w.heap.size + 1 ∧ Below w.heap.size w w' := by
  go_enter Try.func72, Try.ntmps72
  go_wp2_with ((with_reducible refine arr_box 25 _ _ F ?_ ?_); exact rfl; intro w1 hA1 hs1 hb1; have S1 := Lib.hid hs1; clear hs1)
  go_ret
  exact ⟨rfl, hA1, S1.out, hb1⟩

/-- The rounds among LL that gain. -/
noncomputable def gainL (n : Nat) (F : Nat → Int) (LL : List (List Int)) : List (List Int) := LL.filter fun D => tt (p12 n < roundV n (atF F) D.length (nth D))
theorem gainL_front {n : Nat} {F : Nat → Int} {A B : List (List Int)} (h : A <+: B) : gainL n F A <+: gainL n F B := h.filter _
theorem gainL_yes {n : Nat} {F : Nat → Int} {A : List (List Int)} {D : List Int} (h : p12 n < roundV n (atF F) D.length (nth D)) : gainL n F (A ++ [D]) = gainL n F A ++ [D] := by
  unfold gainL
  rw [List.filter_append]
  simp [tt_of h]
theorem gainL_no {n : Nat} {F : Nat → Int} {A : List (List Int)} {D : List Int} (h : ¬ p12 n < roundV n (atF F) D.length (nth D)) : gainL n F (A ++ [D]) = gainL n F A := by
  unfold gainL
  rw [List.filter_append]
  simp [tt_no h]
/-- All rounds are ways. -/
theorem later_ways {n least : Nat} : ∀ (f : Nat) (B : List Int), Diff n B → ∀ D, D ∈ later n least f B → Diff n D ∧ 2 ≤ D.length
  | 0, B, h, D, hD => by
    unfold later at hD
    by_cases e : 2 ≤ B.length
    · rw [if_pos e] at hD; simp at hD; subst hD; exact ⟨h, e⟩
    · rw [if_neg e] at hD; simp at hD
  | f + 1, B, h, D, hD => by
    unfold later at hD
    rw [List.mem_append] at hD
    rcases hD with hD | hD
    · by_cases e : 2 ≤ B.length
      · rw [if_pos e] at hD; simp at hD; subst hD; exact ⟨h, e⟩
      · rw [if_neg e] at hD; simp at hD
    · rw [List.mem_flatMap] at hD
      obtain ⟨x, hx, hD⟩ := hD
      rw [List.mem_range] at hx
      by_cases e : Next least B x
      · rw [if_pos e] at hD
        exact later_ways f _ ((h.snoc_iff hx).2 e.2) D hD
      · rw [if_neg e] at hD; simp at hD
theorem rounds_ways {n : Nat} {D : List Int} (h : D ∈ roundsTo n n) : IsWay n D.length (nth D) := by
  unfold roundsTo at h
  rw [List.mem_flatMap] at h
  obtain ⟨x, hx, h⟩ := h
  rw [List.mem_range] at hx
  have := later_ways (n - 1) [(x : Int)] (diff_one hx) D h
  exact ⟨this.1, this.2, diff_le this.1⟩

set_option maxRecDepth 100000 in
set_option maxHeartbeats 4000000 in
theorem seq_gaining (n Bt : Nat) (F : Nat → Int) (w : World) (hF : Kept n F) (hn2 : 2 ≤ n) (hA : ArrAt w Bt 58 25 F) :
    SeqL Try.prog 3 104 #[.pointer (some ⟨Bt, 0, none⟩)] (fun k => k = Bt) (gainL n F (roundsTo n n)) w := by
  intro l V J Jx W hin hR hJ hJx hY h0
  have hn5 := hF.le
  have hAW : ArrAt W Bt 58 25 F := hA.of_block (hin.block Bt rfl)
  have hBt := hAW.lt
  have HB := Lib.hid (hR Bt rfl)
  have HY := Lib.hid hY
  have H0 := Lib.hid h0
  have HF := Lib.hid hF
  clear hin hR hY h0 hF hA
  refine callsIn_of_wp_marks Try.func104 rfl trivial ?_ rfl
  simp only [Try.ntmps104, List.size_toArray, List.length_cons, List.length_nil, Nat.reduceAdd, Nat.reduceSub, Array.replicate_succ, Array.replicate_zero, List.push_toArray, List.append_toArray, List.nil_append, List.cons_append]
  gi_wp2_with (first
    | ((with_reducible refine arrI_load 25 _ _ _ _ _ _ F ?_ (hAW.below hBt ((Below.refl _ W).alloc (Nat.le_refl _) _)) Try.underlying58 Try.sizeRates ?_); exact rfl)
    | (gi_at_call 59; refine (callsIn_wide.2 (size_any n F _ HF.out)).mono ?_; rintro e w1 ⟨rfl, hb1⟩; have B1 := Lib.hid ((below_alloc (Below.refl _ W) _).trans (hb1.mono (by simp))); have CY := Lib.hid (show w1.cell? ⟨W.heap.size, 0, none⟩ = some (.func (.yield l) #[] #[]) from (hb1.cell (p := ⟨W.heap.size, 0, none⟩) (by simp)).trans (by simp)); have S1 := Lib.hid (show W.heap.size + 1 ≤ w1.heap.size by have := hb1.size; simpa using this); clear hb1)
    | (gi_at_call 105; refine (callsIn_wide.2 (rounds_any _ _)).mono ?_; rintro e w2 ⟨rfl, rfl⟩))
  obtain ⟨bn, hbn⟩ : ∃ bn, bn = w1.heap.size := ⟨_, rfl⟩
  obtain ⟨W0, hW0⟩ : ∃ W0, W0 = (w1.alloc (.cells #[.int .i64 n] 3)).alloc (.cells #[.int .i64 n] 3) := ⟨_, rfl⟩
  rw [← hW0, ← hbn]
  have hs := S1.out
  have hB0 : Below W.heap.size W W0 := by rw [hW0]; exact below_alloc (below_alloc B1.out _) _
  have hB1 : Below w1.heap.size w1 W0 := by rw [hW0]; exact below_alloc (below_alloc (Below.refl _ w1) _) _
  have hs0 : W0.heap.size = bn + 2 := by rw [hW0, hbn]; simp
  have CY0 := Lib.hid (show W0.cell? ⟨W.heap.size, 0, none⟩ = some (.func (.yield l) #[] #[]) from (hB1.cell (p := ⟨W.heap.size, 0, none⟩) (show W.heap.size < w1.heap.size by omega)).trans CY.out)
  have CN0 := Lib.hid (show W0.cell? ⟨bn, 0, none⟩ = some (.int .i64 n) by rw [hW0, hbn, World.cell?_of_block (w := w1.alloc _) (Below.heap_alloc _ _ _ (by simp))]; simp)
  have CR0 := Lib.hid (show W0.cell? ⟨bn + 1, 0, none⟩ = some (.int .i64 n) by rw [hW0, hbn]; have := World.cell?_alloc_new (w1.alloc (.cells #[.int .i64 n] 3)) #[.int .i64 n] 3 0; simp)
  have hbW : W.heap.size < bn := by omega
  have HB0 := Lib.hid hB0
  have S0 := Lib.hid hs0
  clear hW0 hB0 hB1 hs hbn hs0 CY B1 S1
  refine wp_seq (gf := 108) (lb := #[.pointer (some ⟨bn + 1, 0, none⟩)]) (tI := 3) rfl (enters_of Try.func108 (by kernel_rfl) rfl) rfl (R := fun k => k = bn + 1) (LL := roundsTo n n)
    (seq_rounds n (bn + 1) W0 hn2 hn5 CR0.out) (fun k => V k ∨ k ≤ W.heap.size ∨ k = bn) ?hR
    (fun Vi pre Wx => ∃ V1, Vi = (fun k => V1 k ∨ k ≤ W.heap.size ∨ k = bn) ∧ (¬ V1 W.heap.size ∧ ¬ V1 Bt) ∧ ¬ V1 bn ∧ J V1 (gainL n F pre) Wx ∧ Wx.cell? ⟨W.heap.size, 0, none⟩ = some (.func (.yield l) #[] #[]) ∧ Wx.cell? ⟨bn, 0, none⟩ = some (.int .i64 n) ∧ ArrAt Wx Bt 58 25 F)
    (fun c Vi pre Wx => c = .ret ∧ ∃ V1, Vi = (fun k => V1 k ∨ k ≤ W.heap.size ∨ k = bn) ∧ (¬ V1 W.heap.size ∧ ¬ V1 Bt) ∧ ¬ V1 bn ∧ Jx V1 (gainL n F pre) Wx ∧ Wx.cell? ⟨W.heap.size, 0, none⟩ = some (.func (.yield l) #[] #[]) ∧ Wx.cell? ⟨bn, 0, none⟩ = some (.int .i64 n))
    ?cI ?cIx ?start
    (fun v a' _ => a' = { tmps := #[.func (.yield l) #[] #[], .pointer (some ⟨Bt, 0, none⟩), .pointer (some ⟨W.heap.size, 0, none⟩), .pointer (some ⟨bn, 0, none⟩), v, .agg (cellsV 25 F), .int .i64 n, .int .i64 n, .func (.func 108) #[] #[.pointer (some ⟨bn + 1, 0, none⟩)], v, undef, undef, undef, undef, undef, undef, undef, undef, undef, undef, undef, undef], defers := [] })
    (fun v a' W l r o h _ => h) ?assign ?body ?done ?stop
  case hR =>
    intro k hk
    subst hk
    refine ⟨fun h => ?_, by have := S0.out; omega⟩
    rcases h with h | h | h
    · have := hJ.lies _ _ _ H0.out _ h; omega
    · omega
    · omega
  case cI =>
    constructor
    · rintro Vi pre Wx ⟨V1, rfl, h1, h2, h3, h4, h5, h6⟩ k (hk | hk | hk)
      · exact hJ.lies _ _ _ h3 k hk
      · have := World.block_lt_of_cell? _ _ h4
        exact Nat.lt_of_le_of_lt hk this
      · subst hk; exact World.block_lt_of_cell? _ _ h5
    · rintro Vi pre A B ⟨V1, rfl, h1, h2, h3, h4, h5, h6⟩ hin
      exact ⟨V1, rfl, h1, h2, hJ.steady _ _ _ _ h3 (hin.mono fun k hk => .inl hk), hin.cell (p := ⟨W.heap.size, 0, none⟩) (.inr (.inl (Nat.le_refl _))) h4, hin.cell (p := ⟨bn, 0, none⟩) (.inr (.inr rfl)) h5, h6.of_block (hin.block Bt (.inr (.inl (Nat.le_of_lt hBt))))⟩
  case cIx =>
    intro c
    constructor
    · rintro Vi pre Wx ⟨rfl, V1, rfl, h1, h2, h3, h4, h5⟩ k (hk | hk | hk)
      · exact hJx.lies _ _ _ h3 k hk
      · have := World.block_lt_of_cell? _ _ h4
        exact Nat.lt_of_le_of_lt hk this
      · subst hk; exact World.block_lt_of_cell? _ _ h5
    · rintro Vi pre A B ⟨rfl, V1, rfl, h1, h2, h3, h4, h5⟩ hin
      exact ⟨rfl, V1, rfl, h1, h2, hJx.steady _ _ _ _ h3 (hin.mono fun k hk => .inl hk), hin.cell (p := ⟨W.heap.size, 0, none⟩) (.inr (.inl (Nat.le_refl _))) h4, hin.cell (p := ⟨bn, 0, none⟩) (.inr (.inr rfl)) h5⟩
  case start =>
    refine ⟨V, rfl, ⟨fun h => ?_, HB.out⟩, fun h => ?_, hJ.steady _ _ _ _ H0.out (Inside.of_below HB0.out (hJ.lies _ _ _ H0.out)), CY0.out, CN0.out, hAW.below hBt HB0.out⟩
    · have := hJ.lies _ _ _ H0.out _ h; omega
    · have := hJ.lies _ _ _ H0.out _ h; omega
  case assign =>
    intro l' v Wx K hK
    gi_wp2
    exact hK _ _ (Outside.refl _ _) rfl
  case done =>
    rintro D Vi Wx hD hVi hnD ⟨V1, rfl, h1, h2, h3, h4, h5, h6⟩ hKD
    gi_wp2
    refine ⟨by simp, .inl ⟨_, _, rfl, run_takeDeferred hKD, ?_⟩⟩
    exact ⟨_, results_none rfl _ _ _, ⟨_, rfl⟩, .inl ⟨V1, hJ.steady _ _ _ _ h3 (Inside.putObj (fun h => hnD (.inl h)) _)⟩⟩
  case stop =>
    rintro D c Vi pre Wx hD hVi hnD hpre ⟨rfl, V1, rfl, h1, h2, h3, h4, h5⟩ hKD
    gi_wp2
    refine ⟨by simp, .inl ⟨_, _, rfl, run_takeDeferred hKD, ?_⟩⟩
    exact ⟨_, results_none rfl _ _ _, ⟨_, rfl⟩, .inr ⟨V1, _, gainL_front hpre, hJx.steady _ _ _ _ h3 (Inside.putObj (fun h => hnD (.inl h)) _)⟩⟩
  case body =>
    rintro l' Vi pre D gb cap a' Wx ⟨V1, rfl, h1, h2, h3, h4, h5, h6⟩ hpre hown hgb hVi rfl
    have hway := rounds_ways (n := n) (D := D) (by obtain ⟨z, hz⟩ := hpre; rw [← hz]; simp)
    have hm2 := hway.2.1
    have hmn := hway.2.2
    have hsz := S0.out
    have hgl := (owns_cap hown).2.2
    have hgs := (owns_cap hown).2.1
    have HW := Lib.hid hway
    have HO := Lib.hid hown
    have HRd := Lib.hid (show Rd Wx (some ⟨gb, 0, none⟩) D.length (nth D) from owns_rd hown)
    have HJ := Lib.hid h3
    have HA := Lib.hid h6
    have N1 := Lib.hid h1
    have N2 := Lib.hid h2
    have NG := Lib.hid hgb
    have HV := Lib.hid hVi
    have PRE := Lib.hid hpre
    have C4 := Lib.hid h4
    have C5 := Lib.hid h5
    have hcy : ∀ r : Later Wx, r.W.cell? ⟨W.heap.size, 0, none⟩ = some (.func (.yield l) #[] #[]) := fun r => later_cell C4.out r
    have hcn : ∀ r : Later Wx, r.W.cell? ⟨bn, 0, none⟩ = some (.int .i64 n) := fun r => later_cell C5.out r
    have JL := Lib.hid (fun (r : Later Wx) => hJ.steady _ _ _ _ HJ.out (Inside.of_below r.h (hJ.lies _ _ _ HJ.out)))
    obtain ⟨Pw, hPw⟩ : ∃ Pw, Pw = p12 n := ⟨_, rfl⟩
    obtain ⟨Vv, hVv⟩ : ∃ Vv, Vv = roundV n (atF F) D.length (nth D) := ⟨_, rfl⟩
    have QP := Lib.hid hPw
    have QV := Lib.hid hVv
    have RV := Lib.hid (show ∀ r : Later Wx, Calls Try.prog 66 #[.agg (cellsV 25 F), .slice (some ⟨gb, 0, none⟩) D.length cap] r.W fun e w' => e = .returned (.int .i64 Vv) ∧ Below r.W.heap.size r.W w' from fun r => by
      rw [QV.out]; exact roundValue_any n D.length cap F _ (nth D) _ HF.out hn2 HW.out (HRd.out.below (Nat.le_refl _) (Later.h _)))
    have UA := Lib.hid (show ∀ r : Later Wx, Calls Try.prog 60 #[.int .i64 n] r.W fun e w' => e = .returned (.int .i64 Pw) ∧ Below r.W.heap.size r.W w' from fun r => by
      refine (unitAfter_any _ _ (by omega) (by omega)).mono ?_
      rintro e w' ⟨rfl, rfl⟩
      exact ⟨by rw [QP.out, Int.toNat_natCast], Below.refl _ _⟩)
    clear h1 h2 h3 h4 h5 h6 hpre hown hgb hVi hway hPw hVv
    by_cases hg : Pw < Vv
    · have hd : decide (Pw < Vv) = true := by simpa using hg
      have GY := Lib.hid (gainL_yes (n := n) (F := F) (A := pre) (D := D) (by rw [← QP.out, ← QV.out]; exact hg))
      clear hg
      gi_wp2
      refine region_later_tail 7 5 #[true, true, true, true, true, true, true, false, false, false, false, false] #[false, false, false, false, false, false, false, true, true, true, true, true] (by kernel_rfl) rfl (by kernel_rfl) (by kernel_rfl) (by kernel_rfl) (by kernel_rfl) ?_
      simp only [List.take_succ_cons, List.take_zero]
      repeat (first
        | ((with_reducible refine quiet_load_arr 25 _ _ _ 58 _ Bt F ?_ ?_ Try.underlying58 Try.sizeRates ?_); exact rfl; (rintro _ ⟨r, rfl⟩; exact later_arr HA.out r))
        | quiet_step ((first
            | (go_at_call 66; exact calls_later _ (RV.out _))
            | (go_at_call 60; exact calls_later _ (UA.out _)))))
      refine wpQuiet_nil ?_
      rintro _ ⟨r, rfl⟩
      have hcy1 := hcy r
      refine wpAnyIn_take (i := 8) (v := .slice (some ⟨gb, 0, none⟩) D.length cap) rfl rfl (by kernel_rfl) (by kernel_rfl) (by kernel_rfl) (fun _ _ _ h => h) ⟨Or.inl ⟨by rfl, fun w => rfl⟩, fun _ => rfl⟩ ?_
      refine wpAnyIn_ready (rs := [7]) (by kernel_rfl) (by simp) (AllReadyIn.cons rfl (fun K hK => ?_) AllReadyIn.nil)
      go_simp
      refine hK _ _ ?_
      clear hK K
      refine wpAnyIn_ready (rs := [9]) (by kernel_rfl) (by simp) (AllReadyIn.cons rfl (fun K hK => ?_) AllReadyIn.nil)
      refine step_yield (.tmp 17) (.tmp 18) l (.slice (some ⟨gb, 0, none⟩) D.length cap) _ (by rfl) (by rfl) (by rfl) (HY.out V1 (gainL n F pre) D gb cap r.W (JL.out r) (by rw [← GY.out]; exact gainL_front PRE.out) (owns_base (owns_at HO.out (r.h.block gb hgl)) (by have := HB0.out.size; omega)) (fun h => NG.out (.inl h))) ?_
      have hrs := r.h.size
      have FIN := Lib.hid (show ∀ (W2 : World) (V2 : Nat → Prop), Outside V1 r.W W2 → (∀ k, V2 k → V1 k ∨ k = gb ∨ r.W.heap.size ≤ k) →
          Outside (fun k => V1 k ∨ k ≤ W.heap.size ∨ k = bn) Wx W2 ∧ (∀ k, (V2 k ∨ k ≤ W.heap.size ∨ k = bn) → (V1 k ∨ k ≤ W.heap.size ∨ k = bn) ∨ k = gb ∨ Wx.heap.size ≤ k) ∧ (¬ V2 W.heap.size ∧ ¬ V2 Bt) ∧ ¬ V2 bn ∧
          W2.cell? ⟨W.heap.size, 0, none⟩ = some (.func (.yield l) #[] #[]) ∧ W2.cell? ⟨bn, 0, none⟩ = some (.int .i64 n) ∧ ArrAt W2 Bt 58 25 F from fun W2 V2 ho hv => by
        have hbn1 := World.block_lt_of_cell? _ _ C5.out
        have hbn2 : bn < Wx.heap.size := hbn1
        have hA2 := later_arr HA.out r
        refine ⟨((Outside.of_below (V := fun k => V1 k ∨ k ≤ W.heap.size ∨ k = bn) r.h).trans' ho (fun _ _ h => .inl h)), fun k hk => ?_, ⟨fun h => ?_, fun h => ?_⟩, fun h => ?_, ho.cell (p := ⟨W.heap.size, 0, none⟩) N1.out.1 hcy1, ho.cell (p := ⟨bn, 0, none⟩) N2.out (hcn r), hA2.of_block (ho.block Bt hA2.lt N1.out.2)⟩
        · rcases hk with hk | hk
          · rcases hv k hk with h | h | h
            · exact .inl (.inl h)
            · exact .inr (.inl h)
            · exact .inr (.inr (by omega))
          · exact .inl (.inr hk)
        · rcases hv _ h with h | h | h
          · exact N1.out.1 h
          · exact NG.out (.inr (.inl (by omega)))
          · omega
        · rcases hv _ h with h | h | h
          · exact N1.out.2 h
          · exact NG.out (.inr (.inl (by omega)))
          · omega
        · rcases hv _ h with h | h | h
          · exact N2.out h
          · exact NG.out (.inr (.inr h.symm))
          · omega)
      rintro e W2 ⟨ho, V2, hv, (⟨rfl, hj⟩ | ⟨rfl, hj⟩)⟩
      · obtain ⟨f1, f2, f3, f4, f5, f6, f7⟩ := FIN.out W2 V2 ho hv
        have J2 := Lib.hid hj
        clear hj ho hv
        refine ⟨_, rfl, hK _ _ ?_⟩
        clear hK K
        refine wpAnyIn_ready (rs := [10]) (by kernel_rfl) (by simp) (AllReadyIn.cons rfl (fun K hK => ?_) AllReadyIn.nil)
        go_simp
        refine hK _ _ ?_
        clear hK K
        refine wpAnyIn_ready (rs := [11]) (by kernel_rfl) (by simp) (AllReadyIn.cons rfl (fun K hK => ?_) AllReadyIn.nil)
        go_simp
        refine hK _ _ ?_
        clear hK K
        refine wpAnyIn_done (by kernel_rfl) ?_ _
        gi_wp2
        exact ⟨f1, _, f2, V2, rfl, f3, f4, by rw [GY.out]; exact J2.out, f5, f6, f7⟩
      · obtain ⟨f1, f2, f3, f4, f5, f6, f7⟩ := FIN.out W2 V2 ho hv
        have J2 := Lib.hid hj
        clear hj ho hv
        refine ⟨_, rfl, hK _ _ ?_⟩
        clear hK K
        refine wpAnyIn_ready (rs := [10]) (by kernel_rfl) (by simp) (AllReadyIn.cons rfl (fun K hK => ?_) AllReadyIn.nil)
        go_simp
        refine hK _ _ ?_
        clear hK K
        refine wpAnyIn_ready (rs := [11]) (by kernel_rfl) (by simp) (AllReadyIn.cons rfl (fun K hK => ?_) AllReadyIn.nil)
        go_simp
        refine hK _ _ ?_
        clear hK K
        refine wpAnyIn_done (by kernel_rfl) ?_ _
        gi_wp2
        exact ⟨f1, _, f2, rfl, V2, rfl, f3, f4, by rw [GY.out]; exact J2.out, f5, f6⟩
    · have hd : decide (Pw < Vv) = false := by simpa using hg
      have GY := Lib.hid (gainL_no (n := n) (F := F) (A := pre) (D := D) (by rw [← QP.out, ← QV.out]; exact hg))
      clear hg
      gi_wp2
      refine region_later_tail 7 5 #[true, true, true, true, true, true, true, false, false, false, false, false] #[false, false, false, false, false, false, false, true, true, true, true, true] (by kernel_rfl) rfl (by kernel_rfl) (by kernel_rfl) (by kernel_rfl) (by kernel_rfl) ?_
      simp only [List.take_succ_cons, List.take_zero]
      repeat (first
        | ((with_reducible refine quiet_load_arr 25 _ _ _ 58 _ Bt F ?_ ?_ Try.underlying58 Try.sizeRates ?_); exact rfl; (rintro _ ⟨r, rfl⟩; exact later_arr HA.out r))
        | quiet_step ((first
            | (go_at_call 66; exact calls_later _ (RV.out _))
            | (go_at_call 60; exact calls_later _ (UA.out _)))))
      refine wpQuiet_nil ?_
      rintro _ ⟨r, rfl⟩
      have hcy1 := hcy r
      have hcn1 := hcn r
      have hA1 := Lib.hid (later_arr HA.out r)
      refine wpAnyIn_take (i := 7) (v := undef) rfl rfl (by kernel_rfl) (by kernel_rfl) (by kernel_rfl) (fun _ _ _ h => h) ⟨Or.inr ⟨by rfl, rfl⟩, fun _ => rfl⟩ ?_
      refine wpAnyIn_take (i := 8) (v := undef) rfl rfl (by kernel_rfl) (by kernel_rfl) (by kernel_rfl) (fun _ _ _ h => h) ⟨Or.inr ⟨by rfl, rfl⟩, fun _ => rfl⟩ ?_
      refine wpAnyIn_take (i := 9) (v := undef) rfl rfl (by kernel_rfl) (by kernel_rfl) (by kernel_rfl) (fun _ _ _ h => h) ⟨Or.inr ⟨by rfl, rfl⟩, fun _ => rfl⟩ ?_
      refine wpAnyIn_take (i := 10) (v := undef) rfl rfl (by kernel_rfl) (by kernel_rfl) (by kernel_rfl) (fun _ _ _ h => h) ⟨Or.inr ⟨by rfl, rfl⟩, fun _ => rfl⟩ ?_
      refine wpAnyIn_take (i := 11) (v := .bool false) rfl rfl (by kernel_rfl) (by kernel_rfl) (by kernel_rfl) (fun _ _ _ h => h) ⟨Or.inl ⟨by rfl, fun w => rfl⟩, fun _ => rfl⟩ ?_
      refine wpAnyIn_done (by kernel_rfl) ?_ _
      gi_wp2
      exact ⟨Outside.of_below r.h, _, fun k hk => .inl hk, V1, rfl, N1.out, N2.out, by rw [GY.out]; exact JL.out r, hcy1, hcn1, hA1.out⟩
end

section
open Go.RowKit
theorem flatMap_same {α β : Type} {f g : α → List β} : ∀ {l : List α}, (∀ x, x ∈ l → f x = g x) → l.flatMap f = l.flatMap g
  | [], _ => rfl
  | x :: l, h => by
    rw [List.flatMap_cons, List.flatMap_cons, h x (by simp), flatMap_same (fun y hy => h y (by simp [hy]))]
theorem longer_behind {n f : Nat} {B D : List Int} (h : D ∈ longer n f B) : B <+: D := by
  rw [← later_zero] at h
  exact later_behind f B D h
theorem nth_front {B D : List Int} (h : B <+: D) {i : Nat} (hi : i < B.length) : nth D i = nth B i := by
  obtain ⟨z, rfl⟩ := h
  unfold nth
  rw [List.getD_eq_getElem?_getD, List.getD_eq_getElem?_getD, List.getElem?_append_left hi]

/-- Behind a front that is greater than its first one, the rounds are those that go on with greater ones. -/
theorem later_rings {n a : Nat} : ∀ (f : Nat) (B : List Int), Diff n B → 1 ≤ B.length → nth B 0 = a → (∀ i, 1 ≤ i → i < B.length → (a : Int) < nth B i) →
    (longer n f B).filter (fun D => tt (IsRing n D.length (nth D))) = later n (a + 1) f B := by
  intro f
  induction f with
  | zero =>
    intro B hd h1 ha hgt
    unfold longer later
    by_cases e : 2 ≤ B.length
    · rw [if_pos e]
      have : IsRing n B.length (nth B) := ⟨⟨hd, e, diff_le hd⟩, fun i h1 h2 => by rw [ha]; exact hgt i h1 h2⟩
      simp [tt_of this]
    · rw [if_neg e]; rfl
  | succ f ih =>
    intro B hd h1 ha hgt
    unfold longer later
    rw [List.filter_append, List.filter_flatMap]
    congr 1
    · by_cases e : 2 ≤ B.length
      · rw [if_pos e]
        have : IsRing n B.length (nth B) := ⟨⟨hd, e, diff_le hd⟩, fun i h1 h2 => by rw [ha]; exact hgt i h1 h2⟩
        simp [tt_of this]
      · rw [if_neg e]; rfl
    · refine flatMap_same fun x hx => ?_
      rw [List.mem_range] at hx
      by_cases hin : (x : Int) ∈ B
      · rw [if_pos hin, if_neg (fun h => h.2 hin)]; rfl
      · rw [if_neg hin]
        by_cases hle : a + 1 ≤ x
        · rw [if_pos ⟨hle, hin⟩]
          refine ih (B ++ [(x : Int)]) ((hd.snoc_iff hx).2 hin) (by simp) (by rw [nth_snoc_lt (by omega), ha]) (fun i h1 h2 => ?_)
          rw [List.length_append] at h2
          simp only [List.length_cons, List.length_nil] at h2
          by_cases e : i < B.length
          · rw [nth_snoc_lt e]; exact hgt i h1 e
          · have : i = B.length := by omega
            rw [this, nth_snoc]; omega
        · rw [if_neg (fun h => hle h.1), List.filter_eq_nil_iff]
          intro D hD
          have hp := longer_behind hD
          have hne : ¬ IsRing n D.length (nth D) := fun hr => by
            have hl := hp.length_le
            rw [List.length_append] at hl
            simp only [List.length_cons, List.length_nil] at hl
            have h3 := hr.2 B.length h1 (by omega)
            rw [nth_front hp (show 0 < (B ++ [(x : Int)]).length by simp), nth_front hp (show B.length < (B ++ [(x : Int)]).length by simp), nth_snoc, nth_snoc_lt (by omega), ha] at h3
            omega
          rw [tt_no hne]; simp
theorem rounds_rings {n : Nat} (hn : 1 ≤ n) : (longer n n []).filter (fun D => tt (IsRing n D.length (nth D))) = roundsTo n n := by
  obtain ⟨f, rfl⟩ : ∃ f, n = f + 1 := ⟨n - 1, by omega⟩
  unfold longer roundsTo
  rw [if_neg (by simp), List.nil_append, List.filter_flatMap]
  refine flatMap_same fun x hx => ?_
  rw [List.mem_range] at hx
  rw [if_neg (by simp), List.nil_append]
  exact later_rings f [(x : Int)] (diff_one hx) (by simp) rfl (fun i h1 h2 => by simp at h2; omega)

theorem tt_and {p q : Prop} : tt (p ∧ q) = (tt p && tt q) := by
  by_cases h1 : p
  · by_cases h2 : q
    · rw [tt_of h1, tt_of h2, tt_of ⟨h1, h2⟩]; rfl
    · rw [tt_no h2, tt_no (fun h => h2 h.2)]; simp
  · rw [tt_no h1, tt_no (fun h => h1 h.1)]; rfl
theorem gainL_gaining {n : Nat} {L : Nat → Nat} {Z : Nat → Nat → Int} (h : IsRates n L Z) : gainL n (rateF n L Z) (roundsTo n n) = gaining n Z := by
  have hn : 1 ≤ n := by have := h.1.1; omega
  unfold gainL gaining
  rw [← rounds_rings hn, List.filter_filter]
  refine List.filter_congr fun D hD => ?_
  by_cases hr : IsRing n D.length (nth D)
  · have e : roundV n (atF (rateF n L Z)) D.length (nth D) = roundV n Z D.length (nth D) := valF_congr _ (fun j hj => by
      have h1 := closeF_in hr.1 j
      have h2 := closeF_in hr.1 (j + 1)
      exact atF_rate h (by omega) (by omega))
    rw [e, show Gains n Z D = (IsRing n D.length (nth D) ∧ p12 n < roundV n Z D.length (nth D)) from rfl, tt_and, Bool.and_comm]
  · rw [tt_no hr, tt_no (show ¬ Gains n Z D from fun h => hr h.1)]; simp
end

end Go.Proofs.Ytmjbocgoinfamaa
