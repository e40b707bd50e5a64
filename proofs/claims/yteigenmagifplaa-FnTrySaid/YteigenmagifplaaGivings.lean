/- The program's givings: an iterator over all givings, in order. -/
import Derived.Test.YteigenmagifplaaWays
import Derived.Test.YteigenmagifplaaGivsModel
import Derived.Test.YteigenmagifplaaRange
import Derived.Shelf.Abstract
namespace Go.Proofs.Yteigenmagifplaa
set_option linter.unusedVariables false
set_option linter.unusedSimpArgs false
open Go.RowKit

section
attribute [local go_sem] Oper.semAt_some wide_fn wide_round_fn

theorem givings_any (n : Int) (w : World) :
    Calls Try.prog 51 #[.int .i64 n] w fun e w' => e = .returned (.func (.func 67) #[] #[.pointer (some ⟨w.heap.size, 0, none⟩)]) ∧ w' = w.alloc (.cells #[.int .i64 n] 3) := by
  go_enter Try.func51, Try.ntmps51
  go_wp2
  go_ret
  exact ⟨rfl, rfl⟩

/-- Those of a list that have each number. -/
noncomputable def fullL (n : Nat) (LL : List (List Int)) : List (List Int) := LL.filter fun D => tt (D.length = n)
theorem fullL_yes {n : Nat} {A : List (List Int)} {D : List Int} (h : D.length = n) : fullL n (A ++ [D]) = fullL n A ++ [D] := by
  unfold fullL
  rw [List.filter_append]
  simp [tt_of h]
theorem fullL_no {n : Nat} {A : List (List Int)} {D : List Int} (h : ¬ D.length = n) : fullL n (A ++ [D]) = fullL n A := by
  unfold fullL
  rw [List.filter_append]
  simp [tt_no h]

/-- What holds at the head of the loop over the first ones. -/
def GivsInv (n Bn l : Nat) (V : Nat → Prop) (J : (Nat → Prop) → List (List Int) → World → Prop) (W : World) (a' : Act) (wr : World) : Prop :=
  ∃ (i : Nat) (Ds : List Nat) (V1 : Nat → Prop) (u3 u4 u7 u8 u9 u10 u11 u12 u13 u14 u15 u16 u17 u18 u19 u20 u21 u22 u23 : Value), i ≤ n ∧
    a' = { tmps := #[.func (.yield l) #[] #[], .pointer (some ⟨Bn, 0, none⟩), .pointer (some ⟨W.heap.size, 0, none⟩), u3, u4, .int .i64 n, .int .i64 i, u7, u8, u9, u10, u11, u12, u13, u14, u15, u16, u17, u18, u19, u20, u21, u22, u23], defers := Ds.map markD } ∧
    (Ds.Nodup ∧ ∀ D, D ∈ Ds → wr.heap[D]? = some (.deferred (some [])) ∧ ¬ V1 D ∧ W.heap.size < D) ∧
    wr.cell? ⟨W.heap.size, 0, none⟩ = some (.func (.yield l) #[] #[]) ∧ wr.cell? ⟨Bn, 0, none⟩ = some (.int .i64 n) ∧ (¬ V1 W.heap.size ∧ ¬ V1 Bn) ∧ J V1 (givsTo n (n - 1) [] i) wr

set_option maxRecDepth 100000 in
set_option maxHeartbeats 4000000 in
theorem seq_givings6 (n Bn : Nat) (w : World) (hn2 : 2 ≤ n) (hn : n ≤ 6) (hc : w.cell? ⟨Bn, 0, none⟩ = some (.int .i64 n)) :
    SeqL Try.prog 3 67 #[.pointer (some ⟨Bn, 0, none⟩)] (fun k => k = Bn) (givs n n []) w := by
  intro l V J Jx W hin hR hJ hJx hY h0
  have hcW : W.cell? ⟨Bn, 0, none⟩ = some (.int .i64 n) := hin.cell (p := ⟨Bn, 0, none⟩) rfl hc
  have hBl : Bn < W.heap.size := World.block_lt_of_cell? _ _ hcW
  have HB := Lib.hid (hR Bn rfl)
  have HY := Lib.hid hY
  have H0 := Lib.hid h0
  have HE := Lib.hid (show givs n n [] = givsTo n (n - 1) [] n by obtain ⟨f, rfl⟩ : ∃ f, n = f + 1 := ⟨n - 1, by omega⟩; exact givs_succ _ _ _)
  have CN0 := Lib.hid hcW
  clear hin hR hY h0 hc
  refine callsIn_of_wp_marks Try.func67 rfl trivial ?_ rfl
  simp only [Try.ntmps67, List.size_toArray, List.length_cons, List.length_nil, Nat.reduceAdd, Nat.reduceSub, Array.replicate_succ, Array.replicate_zero, List.push_toArray, List.append_toArray, List.nil_append, List.cons_append]
  gi_wp2
  refine wpIn_loop (GivsInv n Bn l V J W) (fun a' _ => n - (intOf (a'.tmps.getD 6 undef)).toNat) ?start ?round
  case start =>
    have cy0 : (W.alloc (.cells #[.func (.yield l) #[] #[]] 49)).cell? ⟨W.heap.size, 0, none⟩ = some (.func (.yield l) #[] #[]) := by simp
    refine ⟨0, [], V, _, _, _, _, _, _, _, _, _, _, _, _, _, _, _, _, _, _, _, Nat.zero_le _, rfl, ⟨List.nodup_nil, fun D hD => by cases hD⟩, by first | exact cy0 | simp, ?_, ⟨fun h => ?_, HB.out⟩, ?_⟩
    · rw [World.cell?_of_block (w := W) (Below.heap_alloc W _ Bn hBl)]; exact hcW
    · have := hJ.lies _ _ _ H0.out _ h; omega
    · exact hJ.steady _ _ _ _ H0.out (Inside.of_below (below_alloc (Below.refl _ W) _) (hJ.lies _ _ _ H0.out))
  case round =>
    rintro a' wr ⟨i, Ds, V1, u3, u4, u7, u8, u9, u10, u11, u12, u13, u14, u15, u16, u17, u18, u19, u20, u21, u22, u23, hi, rfl, ⟨hnd, hds⟩, cy, cn, ⟨hv1, hv2⟩, hj⟩
    clear hcW
    have HD := Lib.hid hds
    have HN := Lib.hid hnd
    have HV := Lib.hid (And.intro hv1 hv2)
    have J1 := Lib.hid hj
    have hWs : W.heap.size < wr.heap.size := World.block_lt_of_cell? _ _ cy
    have hDl := Lib.hid (show ∀ D, D ∈ Ds → D < wr.heap.size from fun D hD => (Array.getElem?_eq_some_iff.1 (hds D hD).1).1)
    clear hds hnd hv1 hv2 hj
    by_cases hlt : i < n
    · gi_wp2_with (gi_at_call 68; refine (callsIn_wide.2 (waysFrom_any _ _ _)).mono ?_; rintro e w2 ⟨rfl, rfl⟩)
      obtain ⟨s, hs⟩ : ∃ s, s = wr.heap.size := ⟨_, rfl⟩
      obtain ⟨w2, hw2⟩ : ∃ w2, w2 = (wr.alloc (.cells #[.int .i64 n] 3)).alloc (.cells #[.int .i64 i] 3) := ⟨_, rfl⟩
      rw [← hw2, ← hs]
      have hB2 : Below wr.heap.size wr w2 := by rw [hw2]; exact below_alloc (below_alloc (Below.refl _ wr) _) _
      have hs2 : w2.heap.size = s + 2 := by rw [hw2, hs]; simp
      have CA := Lib.hid (show w2.cell? ⟨s, 0, none⟩ = some (.int .i64 n) by rw [hw2, hs, World.cell?_of_block (w := wr.alloc _) (Below.heap_alloc _ _ _ (by simp))]; simp)
      have CB := Lib.hid (show w2.cell? ⟨s + 1, 0, none⟩ = some (.int .i64 i) by rw [hw2, hs]; have := World.cell?_alloc_new (wr.alloc (.cells #[.int .i64 n] 3)) #[.int .i64 i] 3 0; simp)
      have CY := Lib.hid ((hB2.cell (p := ⟨W.heap.size, 0, none⟩) hWs).trans cy)
      have CN := Lib.hid ((hB2.cell (p := ⟨Bn, 0, none⟩) (show Bn < wr.heap.size by omega)).trans cn)
      have J2 := Lib.hid (hJ.steady _ _ _ _ J1.out (Inside.of_below hB2 (hJ.lies _ _ _ J1.out)))
      have HD2 := Lib.hid (show ∀ D, D ∈ Ds → w2.heap[D]? = some (.deferred (some [])) from fun D hD => (hB2.block D (hDl.out D hD)).trans (HD.out D hD).1)
      have hVl := Lib.hid (hJ.lies _ _ _ J1.out)
      have hDs := Lib.hid (show ∀ D, D ∈ Ds → D < s from fun D hD => by rw [hs]; exact hDl.out D hD)
      have hWs2 : W.heap.size < s := by omega
      have hV1s := Lib.hid (show ∀ k, V1 k → k < s from fun k hk => by rw [hs]; exact hVl.out k hk)
      have HLL := Lib.hid (show givsTo n (n - 1) [] i ++ fullL n (longer n (n - 1) [(i : Int)]) = givsTo n (n - 1) [] (i + 1) by
        rw [givsTo_new List.not_mem_nil]
        congr 1
        have := givs_longer hn2 (n - 1) [(i : Int)] (by simp; omega)
        exact this)
      have PRE := Lib.hid (show ∀ q, q <+: longer n (n - 1) [(i : Int)] → givsTo n (n - 1) [] i ++ fullL n q <+: givs n n [] from fun q hq => by
        have h1 : fullL n q <+: fullL n (longer n (n - 1) [(i : Int)]) := hq.filter _
        refine ((List.prefix_append_right_inj _).2 h1).trans ?_
        rw [HLL.out, HE.out]
        exact givsTo_front (by omega))
      clear hB2 hw2 hs hDl hVl cy cn J1
      refine wp_seq (gf := 72) (lb := #[.pointer (some ⟨s, 0, none⟩), .pointer (some ⟨s + 1, 0, none⟩)]) (tI := 3) rfl (enters_of Try.func72 (by kernel_rfl) rfl) rfl (R := fun k => k = s ∨ k = s + 1) (LL := longer n (n - 1) [(i : Int)])
        (seq_ways6 n i s (s + 1) w2 hn2 hn hlt CA.out CB.out) (fun k => V1 k ∨ k ≤ W.heap.size ∨ k ∈ Ds) ?hR
        (fun Vi pre Wx => ∃ V2, Vi = (fun k => V2 k ∨ k ≤ W.heap.size ∨ k ∈ Ds) ∧ (¬ V2 W.heap.size ∧ ¬ V2 Bn ∧ ∀ D, D ∈ Ds → ¬ V2 D) ∧ J V2 (givsTo n (n - 1) [] i ++ fullL n pre) Wx ∧ Wx.cell? ⟨W.heap.size, 0, none⟩ = some (.func (.yield l) #[] #[]) ∧ Wx.cell? ⟨Bn, 0, none⟩ = some (.int .i64 n) ∧ ∀ D, D ∈ Ds → Wx.heap[D]? = some (.deferred (some [])))
        (fun c Vi pre Wx => c = .ret ∧ ∃ V2, Vi = (fun k => V2 k ∨ k ≤ W.heap.size ∨ k ∈ Ds) ∧ (¬ V2 W.heap.size ∧ ¬ V2 Bn ∧ ∀ D, D ∈ Ds → ¬ V2 D) ∧ Jx V2 (givsTo n (n - 1) [] i ++ fullL n pre) Wx ∧ Wx.cell? ⟨W.heap.size, 0, none⟩ = some (.func (.yield l) #[] #[]) ∧ ∀ D, D ∈ Ds → Wx.heap[D]? = some (.deferred (some [])))
        ?cI ?cIx ?st
        (fun v a' _ => a' = { tmps := #[.func (.yield l) #[] #[], .pointer (some ⟨Bn, 0, none⟩), .pointer (some ⟨W.heap.size, 0, none⟩), .int .i64 i, v, .int .i64 n, .int .i64 i, .bool true, .int .i64 i, .int .i64 n, .int .i64 i, .func (.func 72) #[] #[.pointer (some ⟨s, 0, none⟩), .pointer (some ⟨s + 1, 0, none⟩)], v, u13, u14, u15, u16, u17, u18, u19, u20, u21, u22, u23], defers := [] })
        (fun v a' W l r o h _ => h) ?assign ?body ?done ?stop
      case hR =>
        intro k hk
        refine ⟨fun h => ?_, by rcases hk with hk | hk <;> omega⟩
        rcases h with h | h | h
        · have := hV1s.out _ h; rcases hk with hk | hk <;> omega
        · rcases hk with hk | hk <;> omega
        · have := hDs.out _ h; rcases hk with hk | hk <;> omega
      case cI =>
        constructor
        · rintro Vi pre Wx ⟨V2, rfl, _, h2, h3, h4, h5⟩ k (hk | hk | hk)
          · exact hJ.lies _ _ _ h2 k hk
          · exact Nat.lt_of_le_of_lt hk (World.block_lt_of_cell? _ _ h3)
          · exact (Array.getElem?_eq_some_iff.1 (h5 k hk)).1
        · rintro Vi pre A B ⟨V2, rfl, h1, h2, h3, h4, h5⟩ hin
          exact ⟨V2, rfl, h1, hJ.steady _ _ _ _ h2 (hin.mono fun k hk => .inl hk), hin.cell (p := ⟨W.heap.size, 0, none⟩) (.inr (.inl (Nat.le_refl _))) h3, hin.cell (p := ⟨Bn, 0, none⟩) (.inr (.inl (Nat.le_of_lt hBl))) h4, fun D hD => (hin.block D (.inr (.inr hD))).trans (h5 D hD)⟩
      case cIx =>
        intro c
        constructor
        · rintro Vi pre Wx ⟨rfl, V2, rfl, _, h2, h3, h5⟩ k (hk | hk | hk)
          · exact hJx.lies _ _ _ h2 k hk
          · exact Nat.lt_of_le_of_lt hk (World.block_lt_of_cell? _ _ h3)
          · exact (Array.getElem?_eq_some_iff.1 (h5 k hk)).1
        · rintro Vi pre A B ⟨rfl, V2, rfl, h1, h2, h3, h5⟩ hin
          exact ⟨rfl, V2, rfl, h1, hJx.steady _ _ _ _ h2 (hin.mono fun k hk => .inl hk), hin.cell (p := ⟨W.heap.size, 0, none⟩) (.inr (.inl (Nat.le_refl _))) h3, fun D hD => (hin.block D (.inr (.inr hD))).trans (h5 D hD)⟩
      case st =>
        exact ⟨V1, rfl, ⟨HV.out.1, HV.out.2, fun D hD => (HD.out D hD).2.1⟩, by rw [show fullL n [] = [] from rfl, List.append_nil]; exact J2.out, CY.out, CN.out, HD2.out⟩
      case assign =>
        intro l' v Wx K hK
        gi_wp2
        exact hK _ _ (Outside.refl _ _) rfl
      case body =>
        rintro l' Vi pre D gb cap a' Wx ⟨V2, rfl, ⟨h1, h1b, h1d⟩, h2, h3, h4, h5⟩ hpre hown hgb hVi rfl
        have HO := Lib.hid hown
        have JX := Lib.hid h2
        have NV := Lib.hid (And.intro h1 (And.intro h1b h1d))
        have NG := Lib.hid hgb
        have HD5 := Lib.hid h5
        have hgl := (owns_cap hown).2.2
        have hgs := (owns_cap hown).2.1
        have hc3 := h3
        have hc4 := h4
        have PR := Lib.hid (PRE.out _ hpre)
        have HVi := Lib.hid hVi
        clear h1 h1b h1d h2 h5 hown hgb hpre hVi
        by_cases hDn : D.length = n
        · have dq : ((D.length : Int) == (n : Int)) = true := by simp; omega
          have FY := Lib.hid (show givsTo n (n - 1) [] i ++ fullL n (pre ++ [D]) = (givsTo n (n - 1) [] i ++ fullL n pre) ++ [D] by rw [fullL_yes hDn, List.append_assoc])
          clear hDn
          obtain ⟨fn, tmps, assign, body, hy, hR⟩ := HY.out V2 (givsTo n (n - 1) [] i ++ fullL n pre) D gb cap Wx JX.out (by rw [← FY.out]; exact PR.out) (owns_base HO.out (by omega)) (fun h => NG.out (.inl h))
          have HR := Lib.hid hR
          clear hR
          gi_wp2
          refine (roundIn_wide HR.out).mono ?_
          have hgb1 : ¬ gb ≤ W.heap.size := fun h => NG.out (.inr (.inl h))
          have FIN := Lib.hid (show ∀ (W2 : World) (V3 : Nat → Prop), Outside V2 Wx W2 → (∀ k, V3 k → V2 k ∨ k = gb ∨ Wx.heap.size ≤ k) →
              Outside (fun k => V2 k ∨ k ≤ W.heap.size ∨ k ∈ Ds) Wx W2 ∧ (∀ k, (V3 k ∨ k ≤ W.heap.size ∨ k ∈ Ds) → (V2 k ∨ k ≤ W.heap.size ∨ k ∈ Ds) ∨ k = gb ∨ Wx.heap.size ≤ k) ∧ (¬ V3 W.heap.size ∧ ¬ V3 Bn ∧ ∀ D, D ∈ Ds → ¬ V3 D) ∧
              W2.cell? ⟨W.heap.size, 0, none⟩ = some (.func (.yield l) #[] #[]) ∧ W2.cell? ⟨Bn, 0, none⟩ = some (.int .i64 n) ∧ ∀ D, D ∈ Ds → W2.heap[D]? = some (.deferred (some [])) from fun W2 V3 ho hv => by
            have hl3 : W.heap.size < Wx.heap.size := World.block_lt_of_cell? _ _ hc3
            have hdl : ∀ D, D ∈ Ds → D < Wx.heap.size := fun D hD => (Array.getElem?_eq_some_iff.1 (HD5.out D hD)).1
            refine ⟨ho.mono (fun k _ h => .inl h), fun k hk => ?_, ⟨fun h => ?_, fun h => ?_, fun D hD h => ?_⟩, ho.cell (p := ⟨W.heap.size, 0, none⟩) NV.out.1 hc3, ho.cell (p := ⟨Bn, 0, none⟩) NV.out.2.1 hc4, fun D hD => (ho.block D (hdl D hD) (NV.out.2.2 D hD)).trans (HD5.out D hD)⟩
            · rcases hk with hk | hk
              · rcases hv k hk with h | h | h
                · exact .inl (.inl h)
                · exact .inr (.inl h)
                · exact .inr (.inr h)
              · exact .inl (.inr hk)
            · rcases hv _ h with h | h | h
              · exact NV.out.1 h
              · omega
              · omega
            · rcases hv _ h with h | h | h
              · exact NV.out.2.1 h
              · omega
              · omega
            · rcases hv _ h with h | h | h
              · exact NV.out.2.2 D hD h
              · exact NG.out (.inr (.inr (by rw [← h]; exact hD)))
              · have := hdl D hD; omega)
          rintro e W2 ⟨ho, V3, hv, (⟨rfl, hj⟩ | ⟨rfl, hj⟩)⟩
          · obtain ⟨f1, f2, f3, f4, f5, f6⟩ := FIN.out W2 V3 ho hv
            have J3 := Lib.hid hj
            have F1 := Lib.hid f1
            have F3 := Lib.hid f3
            have F2 := Lib.hid f2
            have F6 := Lib.hid f6
            clear hj ho hv hy HR FIN f1 f2 f3 f6
            gi_wp2
            exact ⟨F1.out, _, F2.out, V3, rfl, F3.out, by rw [FY.out]; exact J3.out, f4, f5, F6.out⟩
          · obtain ⟨f1, f2, f3, f4, f5, f6⟩ := FIN.out W2 V3 ho hv
            have J3 := Lib.hid hj
            have F1 := Lib.hid f1
            have F3 := Lib.hid f3
            have F2 := Lib.hid f2
            have F6 := Lib.hid f6
            clear hj ho hv hy HR FIN f1 f2 f3 f6
            gi_wp2
            exact ⟨F1.out, _, F2.out, rfl, V3, rfl, F3.out, by rw [FY.out]; exact J3.out, f4, F6.out⟩
        · have dq : ((D.length : Int) == (n : Int)) = false := by simp; omega
          have FY := Lib.hid (show givsTo n (n - 1) [] i ++ fullL n (pre ++ [D]) = givsTo n (n - 1) [] i ++ fullL n pre by rw [fullL_no hDn])
          clear hDn
          gi_wp2
          exact ⟨Outside.refl _ _, _, fun k hk => .inl hk, V2, rfl, NV.out, by rw [FY.out]; exact JX.out, hc3, hc4, HD5.out⟩
      case done =>
        rintro D Vi Wx hD hVi hnD ⟨V2, rfl, ⟨h1, h1b, h1d⟩, h2, h3, h4, h5⟩ hKD
        have NV := Lib.hid (And.intro h1 (And.intro h1b h1d))
        have JX := Lib.hid h2
        have HD5 := Lib.hid h5
        have HKD := Lib.hid hKD
        have HnD := Lib.hid hnD
        have hDW : W.heap.size < D := by
          rcases Nat.lt_or_ge W.heap.size D with h | h
          · exact h
          · exact absurd (.inr (.inl h)) hnD
        have hDDs : ¬ D ∈ Ds := fun h => hnD (.inr (.inr h))
        clear h1 h1b h1d h2 h5 hKD hnD hVi
        gi_wp2
        refine ⟨⟨i + 1, D :: Ds, V2, _, _, _, _, _, _, _, _, _, _, _, _, _, _, _, _, _, _, _, by omega, rfl, ⟨List.nodup_cons.2 ⟨hDDs, HN.out⟩, fun E hE => ?_⟩, h3, h4, ⟨NV.out.1, NV.out.2.1⟩, by rw [← HLL.out]; exact JX.out⟩, by simp [intOf]; omega⟩
        rcases List.mem_cons.1 hE with h | h
        · subst h; exact ⟨HKD.out, fun hv => HnD.out (.inl hv), hDW⟩
        · exact ⟨HD5.out E h, NV.out.2.2 E h, (HD.out E h).2.2⟩
      case stop =>
        rintro D c Vi pre Wx hD hVi hnD hpre ⟨rfl, V2, rfl, ⟨h1, h1b, h1d⟩, h2, h3, h5⟩ hKD
        have NV := Lib.hid (And.intro h1 (And.intro h1b h1d))
        have JX := Lib.hid h2
        have HD5 := Lib.hid h5
        have HKD := Lib.hid hKD
        have HnD := Lib.hid hnD
        have PR := Lib.hid (PRE.out _ hpre)
        have hDDs : ¬ D ∈ Ds := fun h => hnD (.inr (.inr h))
        clear h1 h1b h1d h2 h5 hKD hnD hVi hpre
        gi_wp2
        refine leaves_marks (V := V2) (by simp) (D :: Ds) Wx (List.nodup_cons.2 ⟨hDDs, HN.out⟩) (fun E hE => ?_) (fun E hE => ?_) (fun W' hin => ?_)
        · rcases List.mem_cons.1 hE with h | h
          · subst h; exact HKD.out
          · exact HD5.out E h
        · rcases List.mem_cons.1 hE with h | h
          · subst h; exact fun hv => HnD.out (.inl hv)
          · exact NV.out.2.2 E h
        · exact ⟨_, results_none rfl _ _ _, ⟨_, rfl⟩, .inr ⟨V2, _, PR.out, hJx.steady _ _ _ _ JX.out hin⟩⟩
    · obtain rfl : i = n := by omega
      gi_wp2
      refine leaves_marks (V := V1) (by simp) Ds wr HN.out (fun D hD => (HD.out D hD).1) (fun D hD => (HD.out D hD).2.1) (fun W' hin => ?_)
      exact ⟨_, results_none rfl _ _ _, ⟨_, rfl⟩, .inl ⟨V1, by rw [HE.out]; exact hJ.steady _ _ _ _ J1.out hin⟩⟩
theorem seq_givings (n Bn : Nat) (w : World) (hn2 : 2 ≤ n) (hn : n ≤ 5) (hc : w.cell? ⟨Bn, 0, none⟩ = some (.int .i64 n)) :
    SeqL Try.prog 3 67 #[.pointer (some ⟨Bn, 0, none⟩)] (fun k => k = Bn) (givs n n []) w :=
  seq_givings6 n Bn w hn2 (by omega) hc
end
end Go.Proofs.Yteigenmagifplaa
