/- Texts joined: Givings, ProofBlock, ProofBlockIs, Blocks, Firm, HouseFirm, PrBSize, Tz, DrawOf, DrawProofBlockIs, SpecProofBlockIs, Trader, OnCircles. -/
import Derived.Test.YtabdbgnkiebcdaaGreatDoorPartS8
import Derived.Test.YtabdbgnkiebcdaaGreatDoorPartS10
import Derived.Test.YtabdbgnkiebcdaaGreatDoorPartS7
import Derived.Shelf.Abstract
import Derived.Test.YtabdbgnkiebcdaaGreatDoorPartS11
import Derived.Laws.EntriesVeiled
import Derived.Test.YtabdbgnkiebcdaaGreatDoorPartS1
import Derived.Test.YtabdbgnkiebcdaaGreatDoorProg
import Derived.Shelf.Spec.TrailingZeros
import Derived.Test.YtabdbgnkiebcdaaGreatDoorPartS3
import Derived.Test.YtabdbgnkiebcdaaGreatDoorRows
import Derived.Lib.LaidTab
import Derived.LaidLaws
import Derived.Test.YtabdbgnkiebcdaaGreatDoorPartS2
import Derived.Test.YtabdbgnkiebcdaaGreatDoorPartS4
import Derived.LaidEqlPtr
namespace Go.Proofs.YtabdbgnkiebcdaaGreatDoor
set_option linter.unusedVariables false
set_option linter.unusedSimpArgs false
open Go.RowKit

section
attribute [local go_sem] Oper.semAt_some wide_fn wide_round_fn

theorem givings_any (n : Int) (w : World) :
    Calls Tryz.prog 46 #[.int .i64 n] w fun e w' => e = .returned (.func (.func 78) #[] #[.pointer (some ⟨w.heap.size, 0, none⟩)]) ∧ w' = w.alloc (.cells #[.int .i64 n] 3) := by
  go_enter Tryz.func46, Tryz.ntmps46
  go_wp2
  go_ret
  exact ⟨rfl, rfl⟩

/-- Those of a list that have each number. -/
noncomputable def fullL (n : Nat) (LL : List (List Int)) : List (List Int) := LL.filter fun D => tt (D.length = n)
theorem fullL_yes {n : Nat} {A : List (List Int)} {D : List Int} (h : D.length = n) : fullL n (A ++ [D]) = fullL n A ++ [D] := by
  unfold fullL
  rw [List.filter_append]
  simp [tt_of h]
theorem fullL_no {n : Nat} {A : List (List Int)} {D : List Int} (h : ¬ D.length = n) : fullL n (A ++ [D]) = fullL n A := by
  unfold fullL
  rw [List.filter_append]
  simp [tt_no h]

/-- What holds at the head of the loop over the first ones. -/
def GivsInv (n Bn l : Nat) (V : Nat → Prop) (J : (Nat → Prop) → List (List Int) → World → Prop) (W : World) (a' : Act) (wr : World) : Prop :=
  ∃ (i : Nat) (Ds : List Nat) (V1 : Nat → Prop) (u3 u4 u7 u8 u9 u10 u11 u12 u13 u14 u15 u16 u17 u18 u19 u20 u21 u22 u23 : Value), i ≤ n ∧
    a' = { tmps := #[.func (.yield l) #[] #[], .pointer (some ⟨Bn, 0, none⟩), .pointer (some ⟨W.heap.size, 0, none⟩), u3, u4, .int .i64 n, .int .i64 i, u7, u8, u9, u10, u11, u12, u13, u14, u15, u16, u17, u18, u19, u20, u21, u22, u23], defers := Ds.map markD } ∧
    (Ds.Nodup ∧ ∀ D, D ∈ Ds → wr.heap[D]? = some (.deferred (some [])) ∧ ¬ V1 D ∧ W.heap.size < D) ∧
    wr.cell? ⟨W.heap.size, 0, none⟩ = some (.func (.yield l) #[] #[]) ∧ wr.cell? ⟨Bn, 0, none⟩ = some (.int .i64 n) ∧ (¬ V1 W.heap.size ∧ ¬ V1 Bn) ∧ J V1 (givsTo n (n - 1) [] i) wr

set_option maxRecDepth 100000 in
set_option maxHeartbeats 4000000 in
theorem seq_givings6 (n Bn : Nat) (w : World) (hn2 : 2 ≤ n) (hn : n ≤ 6) (hc : w.cell? ⟨Bn, 0, none⟩ = some (.int .i64 n)) :
    SeqL Tryz.prog 3 78 #[.pointer (some ⟨Bn, 0, none⟩)] (fun k => k = Bn) (givs n n []) w := by
  intro l V J Jx W hin hR hJ hJx hY h0
  have hcW : W.cell? ⟨Bn, 0, none⟩ = some (.int .i64 n) := hin.cell (p := ⟨Bn, 0, none⟩) rfl hc
  have hBl : Bn < W.heap.size := World.block_lt_of_cell? _ _ hcW
  have HB := Lib.hid (hR Bn rfl)
  have HY := Lib.hid hY
  have H0 := Lib.hid h0
  have HE := Lib.hid (show givs n n [] = givsTo n (n - 1) [] n by obtain ⟨f, rfl⟩ : ∃ f, n = f + 1 := ⟨n - 1, by omega⟩; exact givs_succ _ _ _)
  have CN0 := Lib.hid hcW
  clear hin hR hY h0 hc
  refine callsIn_of_wp_marks Tryz.func78 rfl trivial ?_ rfl
  simp only [Tryz.ntmps78, List.size_toArray, List.length_cons, List.length_nil, Nat.reduceAdd, Nat.reduceSub, Array.replicate_succ, Array.replicate_zero, List.push_toArray, List.append_toArray, List.nil_append, List.cons_append]
  gi_wp2
  refine wpIn_loop (GivsInv n Bn l V J W) (fun a' _ => n - (intOf (a'.tmps.getD 6 undef)).toNat) ?start ?round
  case start =>
    have cy0 : (W.alloc (.cells #[.func (.yield l) #[] #[]] 49)).cell? ⟨W.heap.size, 0, none⟩ = some (.func (.yield l) #[] #[]) := by simp
    refine ⟨0, [], V, _, _, _, _, _, _, _, _, _, _, _, _, _, _, _, _, _, _, _, Nat.zero_le _, rfl, ⟨List.nodup_nil, fun D hD => by cases hD⟩, by first | exact cy0 | simp, ?_, ⟨fun h => ?_, HB.out⟩, ?_⟩
    · rw [World.cell?_of_block (w := W) (Below.heap_alloc W _ Bn hBl)]; exact hcW
    · have := hJ.lies _ _ _ H0.out _ h; omega
    · exact hJ.steady _ _ _ _ H0.out (Inside.of_below (below_alloc (Below.refl _ W) _) (hJ.lies _ _ _ H0.out))
  case round =>
    rintro a' wr ⟨i, Ds, V1, u3, u4, u7, u8, u9, u10, u11, u12, u13, u14, u15, u16, u17, u18, u19, u20, u21, u22, u23, hi, rfl, ⟨hnd, hds⟩, cy, cn, ⟨hv1, hv2⟩, hj⟩
    clear hcW
    have HD := Lib.hid hds
    have HN := Lib.hid hnd
    have HV := Lib.hid (And.intro hv1 hv2)
    have J1 := Lib.hid hj
    have hWs : W.heap.size < wr.heap.size := World.block_lt_of_cell? _ _ cy
    have hDl := Lib.hid (show ∀ D, D ∈ Ds → D < wr.heap.size from fun D hD => (Array.getElem?_eq_some_iff.1 (hds D hD).1).1)
    clear hds hnd hv1 hv2 hj
    by_cases hlt : i < n
    · gi_wp2_with (gi_at_call 79; refine (callsIn_wide.2 (waysFrom_any _ _ _)).mono ?_; rintro e w2 ⟨rfl, rfl⟩)
      obtain ⟨s, hs⟩ : ∃ s, s = wr.heap.size := ⟨_, rfl⟩
      obtain ⟨w2, hw2⟩ : ∃ w2, w2 = (wr.alloc (.cells #[.int .i64 n] 3)).alloc (.cells #[.int .i64 i] 3) := ⟨_, rfl⟩
      rw [← hw2, ← hs]
      have hB2 : Below wr.heap.size wr w2 := by rw [hw2]; exact below_alloc (below_alloc (Below.refl _ wr) _) _
      have hs2 : w2.heap.size = s + 2 := by rw [hw2, hs]; simp
      have CA := Lib.hid (show w2.cell? ⟨s, 0, none⟩ = some (.int .i64 n) by rw [hw2, hs, World.cell?_of_block (w := wr.alloc _) (Below.heap_alloc _ _ _ (by simp))]; simp)
      have CB := Lib.hid (show w2.cell? ⟨s + 1, 0, none⟩ = some (.int .i64 i) by rw [hw2, hs]; have := World.cell?_alloc_new (wr.alloc (.cells #[.int .i64 n] 3)) #[.int .i64 i] 3 0; simp)
      have CY := Lib.hid ((hB2.cell (p := ⟨W.heap.size, 0, none⟩) hWs).trans cy)
      have CN := Lib.hid ((hB2.cell (p := ⟨Bn, 0, none⟩) (show Bn < wr.heap.size by omega)).trans cn)
      have J2 := Lib.hid (hJ.steady _ _ _ _ J1.out (Inside.of_below hB2 (hJ.lies _ _ _ J1.out)))
      have HD2 := Lib.hid (show ∀ D, D ∈ Ds → w2.heap[D]? = some (.deferred (some [])) from fun D hD => (hB2.block D (hDl.out D hD)).trans (HD.out D hD).1)
      have hVl := Lib.hid (hJ.lies _ _ _ J1.out)
      have hDs := Lib.hid (show ∀ D, D ∈ Ds → D < s from fun D hD => by rw [hs]; exact hDl.out D hD)
      have hWs2 : W.heap.size < s := by omega
      have hV1s := Lib.hid (show ∀ k, V1 k → k < s from fun k hk => by rw [hs]; exact hVl.out k hk)
      have HLL := Lib.hid (show givsTo n (n - 1) [] i ++ fullL n (longer n (n - 1) [(i : Int)]) = givsTo n (n - 1) [] (i + 1) by
        rw [givsTo_new List.not_mem_nil]
        congr 1
        have := givs_longer hn2 (n - 1) [(i : Int)] (by simp; omega)
        exact this)
      have PRE := Lib.hid (show ∀ q, q <+: longer n (n - 1) [(i : Int)] → givsTo n (n - 1) [] i ++ fullL n q <+: givs n n [] from fun q hq => by
        have h1 : fullL n q <+: fullL n (longer n (n - 1) [(i : Int)]) := hq.filter _
        refine ((List.prefix_append_right_inj _).2 h1).trans ?_
        rw [HLL.out, HE.out]
        exact givsTo_front (by omega))
      clear hB2 hw2 hs hDl hVl cy cn J1
      refine wp_seq (gf := 116) (lb := #[.pointer (some ⟨s, 0, none⟩), .pointer (some ⟨s + 1, 0, none⟩)]) (tI := 3) rfl (enters_of Tryz.func116 (by kernel_rfl) rfl) rfl (R := fun k => k = s ∨ k = s + 1) (LL := longer n (n - 1) [(i : Int)])
        (seq_ways6 n i s (s + 1) w2 hn2 hn hlt CA.out CB.out) (fun k => V1 k ∨ k ≤ W.heap.size ∨ k ∈ Ds) ?hR
        (fun Vi pre Wx => ∃ V2, Vi = (fun k => V2 k ∨ k ≤ W.heap.size ∨ k ∈ Ds) ∧ (¬ V2 W.heap.size ∧ ¬ V2 Bn ∧ ∀ D, D ∈ Ds → ¬ V2 D) ∧ J V2 (givsTo n (n - 1) [] i ++ fullL n pre) Wx ∧ Wx.cell? ⟨W.heap.size, 0, none⟩ = some (.func (.yield l) #[] #[]) ∧ Wx.cell? ⟨Bn, 0, none⟩ = some (.int .i64 n) ∧ ∀ D, D ∈ Ds → Wx.heap[D]? = some (.deferred (some [])))
        (fun c Vi pre Wx => c = .ret ∧ ∃ V2, Vi = (fun k => V2 k ∨ k ≤ W.heap.size ∨ k ∈ Ds) ∧ (¬ V2 W.heap.size ∧ ¬ V2 Bn ∧ ∀ D, D ∈ Ds → ¬ V2 D) ∧ Jx V2 (givsTo n (n - 1) [] i ++ fullL n pre) Wx ∧ Wx.cell? ⟨W.heap.size, 0, none⟩ = some (.func (.yield l) #[] #[]) ∧ ∀ D, D ∈ Ds → Wx.heap[D]? = some (.deferred (some [])))
        ?cI ?cIx ?st
        (fun v a' _ => a' = { tmps := #[.func (.yield l) #[] #[], .pointer (some ⟨Bn, 0, none⟩), .pointer (some ⟨W.heap.size, 0, none⟩), .int .i64 i, v, .int .i64 n, .int .i64 i, .bool true, .int .i64 i, .int .i64 n, .int .i64 i, .func (.func 116) #[] #[.pointer (some ⟨s, 0, none⟩), .pointer (some ⟨s + 1, 0, none⟩)], v, u13, u14, u15, u16, u17, u18, u19, u20, u21, u22, u23], defers := [] })
        (fun v a' W l r o h _ => h) ?assign ?body ?done ?stop
      case hR =>
        intro k hk
        refine ⟨fun h => ?_, by rcases hk with hk | hk <;> omega⟩
        rcases h with h | h | h
        · have := hV1s.out _ h; rcases hk with hk | hk <;> omega
        · rcases hk with hk | hk <;> omega
        · have := hDs.out _ h; rcases hk with hk | hk <;> omega
      case cI =>
        constructor
        · rintro Vi pre Wx ⟨V2, rfl, _, h2, h3, h4, h5⟩ k (hk | hk | hk)
          · exact hJ.lies _ _ _ h2 k hk
          · exact Nat.lt_of_le_of_lt hk (World.block_lt_of_cell? _ _ h3)
          · exact (Array.getElem?_eq_some_iff.1 (h5 k hk)).1
        · rintro Vi pre A B ⟨V2, rfl, h1, h2, h3, h4, h5⟩ hin
          exact ⟨V2, rfl, h1, hJ.steady _ _ _ _ h2 (hin.mono fun k hk => .inl hk), hin.cell (p := ⟨W.heap.size, 0, none⟩) (.inr (.inl (Nat.le_refl _))) h3, hin.cell (p := ⟨Bn, 0, none⟩) (.inr (.inl (Nat.le_of_lt hBl))) h4, fun D hD => (hin.block D (.inr (.inr hD))).trans (h5 D hD)⟩
      case cIx =>
        intro c
        constructor
        · rintro Vi pre Wx ⟨rfl, V2, rfl, _, h2, h3, h5⟩ k (hk | hk | hk)
          · exact hJx.lies _ _ _ h2 k hk
          · exact Nat.lt_of_le_of_lt hk (World.block_lt_of_cell? _ _ h3)
          · exact (Array.getElem?_eq_some_iff.1 (h5 k hk)).1
        · rintro Vi pre A B ⟨rfl, V2, rfl, h1, h2, h3, h5⟩ hin
          exact ⟨rfl, V2, rfl, h1, hJx.steady _ _ _ _ h2 (hin.mono fun k hk => .inl hk), hin.cell (p := ⟨W.heap.size, 0, none⟩) (.inr (.inl (Nat.le_refl _))) h3, fun D hD => (hin.block D (.inr (.inr hD))).trans (h5 D hD)⟩
      case st =>
        exact ⟨V1, rfl, ⟨HV.out.1, HV.out.2, fun D hD => (HD.out D hD).2.1⟩, by rw [show fullL n [] = [] from rfl, List.append_nil]; exact J2.out, CY.out, CN.out, HD2.out⟩
      case assign =>
        intro l' v Wx K hK
        gi_wp2
        exact hK _ _ (Outside.refl _ _) rfl
      case body =>
        rintro l' Vi pre D gb cap a' Wx ⟨V2, rfl, ⟨h1, h1b, h1d⟩, h2, h3, h4, h5⟩ hpre hown hgb hVi rfl
        have HO := Lib.hid hown
        have JX := Lib.hid h2
        have NV := Lib.hid (And.intro h1 (And.intro h1b h1d))
        have NG := Lib.hid hgb
        have HD5 := Lib.hid h5
        have hgl := (owns_cap hown).2.2
        have hgs := (owns_cap hown).2.1
        have hc3 := h3
        have hc4 := h4
        have PR := Lib.hid (PRE.out _ hpre)
        have HVi := Lib.hid hVi
        clear h1 h1b h1d h2 h5 hown hgb hpre hVi
        by_cases hDn : D.length = n
        · have dq : ((D.length : Int) == (n : Int)) = true := by simp; omega
          have FY := Lib.hid (show givsTo n (n - 1) [] i ++ fullL n (pre ++ [D]) = (givsTo n (n - 1) [] i ++ fullL n pre) ++ [D] by rw [fullL_yes hDn, List.append_assoc])
          clear hDn
          obtain ⟨fn, tmps, assign, body, hy, hR⟩ := HY.out V2 (givsTo n (n - 1) [] i ++ fullL n pre) D gb cap Wx JX.out (by rw [← FY.out]; exact PR.out) (owns_base HO.out (by omega)) (fun h => NG.out (.inl h))
          have HR := Lib.hid hR
          clear hR
          gi_wp2
          refine (roundIn_wide HR.out).mono ?_
          have hgb1 : ¬ gb ≤ W.heap.size := fun h => NG.out (.inr (.inl h))
          have FIN := Lib.hid (show ∀ (W2 : World) (V3 : Nat → Prop), Outside V2 Wx W2 → (∀ k, V3 k → V2 k ∨ k = gb ∨ Wx.heap.size ≤ k) →
              Outside (fun k => V2 k ∨ k ≤ W.heap.size ∨ k ∈ Ds) Wx W2 ∧ (∀ k, (V3 k ∨ k ≤ W.heap.size ∨ k ∈ Ds) → (V2 k ∨ k ≤ W.heap.size ∨ k ∈ Ds) ∨ k = gb ∨ Wx.heap.size ≤ k) ∧ (¬ V3 W.heap.size ∧ ¬ V3 Bn ∧ ∀ D, D ∈ Ds → ¬ V3 D) ∧
              W2.cell? ⟨W.heap.size, 0, none⟩ = some (.func (.yield l) #[] #[]) ∧ W2.cell? ⟨Bn, 0, none⟩ = some (.int .i64 n) ∧ ∀ D, D ∈ Ds → W2.heap[D]? = some (.deferred (some [])) from fun W2 V3 ho hv => by
            have hl3 : W.heap.size < Wx.heap.size := World.block_lt_of_cell? _ _ hc3
            have hdl : ∀ D, D ∈ Ds → D < Wx.heap.size := fun D hD => (Array.getElem?_eq_some_iff.1 (HD5.out D hD)).1
            refine ⟨ho.mono (fun k _ h => .inl h), fun k hk => ?_, ⟨fun h => ?_, fun h => ?_, fun D hD h => ?_⟩, ho.cell (p := ⟨W.heap.size, 0, none⟩) NV.out.1 hc3, ho.cell (p := ⟨Bn, 0, none⟩) NV.out.2.1 hc4, fun D hD => (ho.block D (hdl D hD) (NV.out.2.2 D hD)).trans (HD5.out D hD)⟩
            · rcases hk with hk | hk
              · rcases hv k hk with h | h | h
                · exact .inl (.inl h)
                · exact .inr (.inl h)
                · exact .inr (.inr h)
              · exact .inl (.inr hk)
            · rcases hv _ h with h | h | h
              · exact NV.out.1 h
              · omega
              · omega
            · rcases hv _ h with h | h | h
              · exact NV.out.2.1 h
              · omega
              · omega
            · rcases hv _ h with h | h | h
              · exact NV.out.2.2 D hD h
              · exact NG.out (.inr (.inr (by rw [← h]; exact hD)))
              · have := hdl D hD; omega)
          rintro e W2 ⟨ho, V3, hv, (⟨rfl, hj⟩ | ⟨rfl, hj⟩)⟩
          · obtain ⟨f1, f2, f3, f4, f5, f6⟩ := FIN.out W2 V3 ho hv
            have J3 := Lib.hid hj
            have F1 := Lib.hid f1
            have F3 := Lib.hid f3
            have F2 := Lib.hid f2
            have F6 := Lib.hid f6
            clear hj ho hv hy HR FIN f1 f2 f3 f6
            gi_wp2
            exact ⟨F1.out, _, F2.out, V3, rfl, F3.out, by rw [FY.out]; exact J3.out, f4, f5, F6.out⟩
          · obtain ⟨f1, f2, f3, f4, f5, f6⟩ := FIN.out W2 V3 ho hv
            have J3 := Lib.hid hj
            have F1 := Lib.hid f1
            have F3 := Lib.hid f3
            have F2 := Lib.hid f2
            have F6 := Lib.hid f6
            clear hj ho hv hy HR FIN f1 f2 f3 f6
            gi_wp2
            exact ⟨F1.out, _, F2.out, rfl, V3, rfl, F3.out, by rw [FY.out]; exact J3.out, f4, F6.out⟩
        · have dq : ((D.length : Int) == (n : Int)) = false := by simp; omega
          have FY := Lib.hid (show givsTo n (n - 1) [] i ++ fullL n (pre ++ [D]) = givsTo n (n - 1) [] i ++ fullL n pre by rw [fullL_no hDn])
          clear hDn
          gi_wp2
          exact ⟨Outside.refl _ _, _, fun k hk => .inl hk, V2, rfl, NV.out, by rw [FY.out]; exact JX.out, hc3, hc4, HD5.out⟩
      case done =>
        rintro D Vi Wx hD hVi hnD ⟨V2, rfl, ⟨h1, h1b, h1d⟩, h2, h3, h4, h5⟩ hKD
        have NV := Lib.hid (And.intro h1 (And.intro h1b h1d))
        have JX := Lib.hid h2
        have HD5 := Lib.hid h5
        have HKD := Lib.hid hKD
        have HnD := Lib.hid hnD
        have hDW : W.heap.size < D := by
          rcases Nat.lt_or_ge W.heap.size D with h | h
          · exact h
          · exact absurd (.inr (.inl h)) hnD
        have hDDs : ¬ D ∈ Ds := fun h => hnD (.inr (.inr h))
        clear h1 h1b h1d h2 h5 hKD hnD hVi
        gi_wp2
        refine ⟨⟨i + 1, D :: Ds, V2, _, _, _, _, _, _, _, _, _, _, _, _, _, _, _, _, _, _, _, by omega, rfl, ⟨List.nodup_cons.2 ⟨hDDs, HN.out⟩, fun E hE => ?_⟩, h3, h4, ⟨NV.out.1, NV.out.2.1⟩, by rw [← HLL.out]; exact JX.out⟩, by simp [intOf]; omega⟩
        rcases List.mem_cons.1 hE with h | h
        · subst h; exact ⟨HKD.out, fun hv => HnD.out (.inl hv), hDW⟩
        · exact ⟨HD5.out E h, NV.out.2.2 E h, (HD.out E h).2.2⟩
      case stop =>
        rintro D c Vi pre Wx hD hVi hnD hpre ⟨rfl, V2, rfl, ⟨h1, h1b, h1d⟩, h2, h3, h5⟩ hKD
        have NV := Lib.hid (And.intro h1 (And.intro h1b h1d))
        have JX := Lib.hid h2
        have HD5 := Lib.hid h5
        have HKD := Lib.hid hKD
        have HnD := Lib.hid hnD
        have PR := Lib.hid (PRE.out _ hpre)
        have hDDs : ¬ D ∈ Ds := fun h => hnD (.inr (.inr h))
        clear h1 h1b h1d h2 h5 hKD hnD hVi hpre
        gi_wp2
        refine leaves_marks (V := V2) (by simp) (D :: Ds) Wx (List.nodup_cons.2 ⟨hDDs, HN.out⟩) (fun E hE => ?_) (fun E hE => ?_) (fun W' hin => ?_)
        · rcases List.mem_cons.1 hE with h | h
          · subst h; exact HKD.out
          · exact HD5.out E h
        · rcases List.mem_cons.1 hE with h | h
          · subst h; exact fun hv => HnD.out (.inl hv)
          · exact NV.out.2.2 E h
        · exact ⟨_, results_none rfl _ _ _, ⟨_, rfl⟩, .inr ⟨V2, _, PR.out, hJx.steady _ _ _ _ JX.out hin⟩⟩
    · obtain rfl : i = n := by omega
      gi_wp2
      refine leaves_marks (V := V1) (by simp) Ds wr HN.out (fun D hD => (HD.out D hD).1) (fun D hD => (HD.out D hD).2.1) (fun W' hin => ?_)
      exact ⟨_, results_none rfl _ _ _, ⟨_, rfl⟩, .inl ⟨V1, by rw [HE.out]; exact hJ.steady _ _ _ _ J1.out hin⟩⟩
theorem seq_givings (n Bn : Nat) (w : World) (hn2 : 2 ≤ n) (hn : n ≤ 5) (hc : w.cell? ⟨Bn, 0, none⟩ = some (.int .i64 n)) :
    SeqL Tryz.prog 3 78 #[.pointer (some ⟨Bn, 0, none⟩)] (fun k => k = Bn) (givs n n []) w :=
  seq_givings6 n Bn w hn2 (by omega) hc
end
end Go.Proofs.YtabdbgnkiebcdaaGreatDoor

namespace Go.Proofs.YtabdbgnkiebcdaaGreatDoor
set_option linter.unusedVariables false
set_option linter.unusedSimpArgs false
open Go.RowKit
attribute [local go_sem] Oper.semAt_some wide_fn wide_round_fn

/-- What holds between the rounds. -/
def BlkJ (n : Nat) (Z : Nat → Nat → Int) (G : Nat → Int) (s q : Nat) (row : Array Value) (w : World) (V : Nat → Prop) (pre : List (List Int)) (Wx : World) : Prop :=
  V = (fun k => k ≤ q) ∧ (∀ E, E ∈ pre → ¬ AgainstP n Z G (nth E)) ∧ Below s w Wx ∧ Wx.cell? ⟨s, 0, none⟩ = some (.string ⟨#[]⟩) ∧ Wx.frozen? ⟨s, 0, none⟩ = false ∧ Wx.cell? ⟨s + 1, 0, none⟩ = some (.bool false) ∧ Wx.frozen? ⟨s + 1, 0, none⟩ = false ∧
    Wx.heap[q]? = some (.cells row 71 (0, 0))
/-- What holds where a round has found one that stands against it. -/
def BlkX (n : Nat) (Z : Nat → Nat → Int) (G : Nat → Int) (s q : Nat) (w : World) (c : Code) (V : Nat → Prop) (pre : List (List Int)) (Wx : World) : Prop :=
  c = .ret ∧ V = (fun k => k ≤ q) ∧ (∃ P D, pre = P ++ [D] ∧ (∀ E, E ∈ P → ¬ AgainstP n Z G (nth E)) ∧ AgainstP n Z G (nth D) ∧ Wx.cell? ⟨s, 0, none⟩ = some (.string (strU (wordsB blockB D)))) ∧ Below s w Wx ∧ Wx.cell? ⟨s + 1, 0, none⟩ = some (.bool true) ∧ q < Wx.heap.size

theorem blkJ_caller (n : Nat) (Z : Nat → Nat → Int) (G : Nat → Int) (s q : Nat) (row : Array Value) (w : World) (hq : s + 2 ≤ q) : Caller (BlkJ n Z G s q row w) := by
  constructor
  · rintro V pre Wx ⟨rfl, _, _, _, _, _, _, h7⟩ k hk
    exact Nat.lt_of_le_of_lt hk (Array.getElem?_eq_some_iff.1 h7).1
  · rintro V pre A B ⟨rfl, h0, h1, h2, h3, h4, h5, h7⟩ hin
    exact ⟨rfl, h0, below_inside h1 hin (fun k hk => show k ≤ q by omega), hin.cell (p := ⟨s, 0, none⟩) (show s ≤ q by omega) h2, (frozen_inside hin (p := ⟨s, 0, none⟩) (show s ≤ q by omega)).trans h3, hin.cell (p := ⟨s + 1, 0, none⟩) (show s + 1 ≤ q by omega) h4, (frozen_inside hin (p := ⟨s + 1, 0, none⟩) (show s + 1 ≤ q by omega)).trans h5, (hin.block q (Nat.le_refl _)).trans h7⟩
theorem blkX_caller (n : Nat) (Z : Nat → Nat → Int) (G : Nat → Int) (s q : Nat) (w : World) (c : Code) (hq : s + 2 ≤ q) : Caller (BlkX n Z G s q w c) := by
  constructor
  · rintro V pre Wx ⟨rfl, rfl, _, _, _, h7⟩ k hk
    exact Nat.lt_of_le_of_lt hk h7
  · rintro V pre A B ⟨rfl, rfl, ⟨P, D, rfl, h0, h1, h2⟩, h3, h4, h7⟩ hin
    exact ⟨rfl, rfl, ⟨P, D, rfl, h0, h1, hin.cell (p := ⟨s, 0, none⟩) (show s ≤ q by omega) h2⟩, below_inside h3 hin (fun k hk => show k ≤ q by omega), hin.cell (p := ⟨s + 1, 0, none⟩) (show s + 1 ≤ q by omega) h4, Nat.lt_of_lt_of_le h7 hin.size⟩

set_option maxRecDepth 100000 in
set_option maxHeartbeats 6400000 in
theorem proofBlock_any (n c : Nat) (a : Option Addr) (A : Nat → Option Addr) (L C : Nat → Nat) (Z : Nat → Nat → Int) (m d : Nat) (b : Option Addr) (G : Nat → Int) (w : World) (hT : PowAt w) (hn0 : n ≤ 1048576) (hL0 : ∀ r, r < n → L r ≤ 1048576) (ha0 : Tab w a n A L C Z) (hm1 : m ≤ 1048576) (hb1 : Rd w b m G) :
    Calls Tryz.prog 15 #[.slice a n c, .slice b m d] w fun e w' => e = .returned (.tuple #[.string (strU (prB n L Z m G)), .bool (tt (HasB n L Z m G))]) ∧ Below w.heap.size w w' := by
  have BA : Below w.heap.size w ((w.alloc (.cells #[.string ⟨#[]⟩] 9)).alloc (.cells #[.bool false] 4)) := below_alloc (below_alloc (Below.refl _ w) _) _
  have H1 := Lib.hid (readGivenHouses_any n c a A L C Z m d b G _ hn0 hL0 (ha0.below (Nat.le_refl _) BA) hm1 (hb1.below (Nat.le_refl _) BA))
  clear BA
  refine (callsIn_wide (n := 9)).1 ?_
  refine callsIn_of_wp_marks Tryz.func15 rfl trivial ?_ rfl
  simp only [Tryz.ntmps15, List.size_toArray, List.length_cons, List.length_nil, Nat.reduceAdd, Nat.reduceSub, Array.replicate_succ, Array.replicate_zero, List.push_toArray, List.append_toArray, List.nil_append, List.cons_append]
  by_cases hg : GivenOk n L Z m G
  · have T1 := Lib.hid (tt_of hg)
    have hmn := hg.2.1
    subst hmn
    have HG := Lib.hid hg
    have HA := Lib.hid ha0
    have HB := Lib.hid hb1
    have HT := Lib.hid hT
    have hn2 := hg.1.1.1
    have hn5 := hg.1.1.2
    clear hg ha0 hb1 hT
    gi_wp2_with (first
      | (gi_at_call 45; refine (callsIn_wide.2 H1.out).mono ?_; rw [T1.out]; rintro e w0 ⟨rfl, hb0⟩; simp only [World.size_alloc] at hb0; have hz0 : w.heap.size + 1 + 1 ≤ w0.heap.size := by have := hb0.size; simpa using this)
      | (gi_at_call 46; refine (callsIn_wide.2 (givings_any _ _)).mono ?_; rintro e w2 ⟨rfl, rfl⟩))
    obtain ⟨s, hs⟩ : ∃ s, s = w.heap.size := ⟨_, rfl⟩
    obtain ⟨q, hq⟩ : ∃ q, q = w0.heap.size := ⟨_, rfl⟩
    obtain ⟨w4, hw4⟩ : ∃ w4, w4 = (w0.alloc (.cells #[.slice a m c, .slice b m d] 71)).alloc (.cells #[.int .i64 m] 3) := ⟨_, rfl⟩
    have hqs : s + 2 ≤ q := by omega
    have hs4 : w4.heap.size = q + 2 := by rw [hw4, hq]; simp
    have hb4 : Below (w.heap.size + 1 + 1) ((w.alloc (.cells #[.string ⟨#[]⟩] 9)).alloc (.cells #[.bool false] 4)) w4 := by rw [hw4]; exact (hb0.alloc hz0 _).alloc (by simp; omega) _
    have B4 := Lib.hid hb4
    have C0 := Lib.hid (show w4.cell? ⟨s, 0, none⟩ = some (.string ⟨#[]⟩) from (B4.out.cell (p := ⟨s, 0, none⟩) (show s < w.heap.size + 1 + 1 by omega)).trans (by
      rw [hs, World.cell?_of_block (w := w.alloc _) (Below.heap_alloc _ _ _ (by simp))]; simp))
    have C1 := Lib.hid (show w4.cell? ⟨s + 1, 0, none⟩ = some (.bool false) from (B4.out.cell (p := ⟨s + 1, 0, none⟩) (show s + 1 < w.heap.size + 1 + 1 by omega)).trans (by
      rw [hs]; have := World.cell?_alloc_new (w.alloc (.cells #[.string ⟨#[]⟩] 9)) #[.bool false] 4 0; simp))
    have F0 := Lib.hid (show w4.frozen? ⟨s, 0, none⟩ = false by
      rw [World.frozen?_of_block (w := (w.alloc _).alloc _) (B4.out.block s (by omega)), hs, World.frozen?_of_block (w := w.alloc _) (Below.heap_alloc _ _ _ (by simp))]; simp)
    have F1 := Lib.hid (show w4.frozen? ⟨s + 1, 0, none⟩ = false by
      rw [World.frozen?_of_block (w := (w.alloc _).alloc _) (B4.out.block (s + 1) (by omega)), hs]; simp)
    have BB := Lib.hid (show Below s w w4 by
      rw [hs]; exact (below_alloc (below_alloc (Below.refl _ w) _) _).trans (B4.out.mono (by omega)))
    have HQ := Lib.hid (show w4.heap[q]? = some (.cells #[.slice a m c, .slice b m d] 71 (0, 0)) by
      rw [hw4, hq, Below.heap_alloc _ _ _ (by simp)]; exact heap_alloc_last w0 _)
    have CN := Lib.hid (show w4.cell? ⟨q + 1, 0, none⟩ = some (.int .i64 m) by
      have h1 : w4.heap[q + 1]? = some (.cells #[.int .i64 m] 3 (0, 0)) := by
        rw [hw4, hq]
        have h := heap_alloc_last (w0.alloc (.cells #[.slice a m c, .slice b m d] 71)) (.cells #[.int .i64 m] 3)
        rwa [World.size_alloc] at h
      exact (Lib.cell_of_heap h1 0).trans rfl)
    have hsw : s ≤ w4.heap.size := by omega
    rw [← hs, ← hq, ← hw4]
    have HS := Lib.hid hs
    clear hs hq hw4 hb4 B4 hb0 hz0
    refine wp_seq (gf := 78) (lb := #[.pointer (some ⟨q + 1, 0, none⟩)]) (tI := 3) rfl (enters_of Tryz.func78 (by kernel_rfl) rfl) rfl (R := fun k => k = q + 1) (LL := givs m m [])
      (seq_givings m (q + 1) w4 hn2 hn5 CN.out) (fun k => k ≤ q) (fun k hk => by subst hk; exact ⟨fun h => by omega, by omega⟩)
      (BlkJ m Z G s q #[.slice a m c, .slice b m d] w) (BlkX m Z G s q w) (blkJ_caller _ _ _ _ _ _ _ hqs) (fun c' => blkX_caller _ _ _ _ _ _ c' hqs) ⟨rfl, fun E hE => (by simp at hE), BB.out, C0.out, F0.out, C1.out, F1.out, HQ.out⟩
      (fun v a' _ => a' = { tmps := #[.slice a m c, .slice b m d, undef, undef, .pointer (some ⟨s, 0, none⟩), .pointer (some ⟨s + 1, 0, none⟩), .pointer (some ⟨q, 0, none⟩), .bool true, v, undef, .tuple #[.agg #[.slice a m c, .slice b m d], .bool true], .slice a m c, .slice b m d, .tuple #[.agg #[.slice a m c, .slice b m d], .bool true], .agg #[.slice a m c, .slice b m d], .bool true, .bool true, .bool false, .slice a m c, .int .i64 m, .func (.func 78) #[] #[.pointer (some ⟨q + 1, 0, none⟩)], v, undef, undef, undef, undef, undef, undef, undef], defers := [] })
      (fun v a' W l r o h _ => h) ?assign ?body ?done ?stop
    case assign =>
      intro l' v Wx K hK
      gi_wp2
      exact hK _ _ (Outside.refl _ _) rfl
    case body =>
      rintro l' V pre D gb cap a' Wx ⟨rfl, h0, h1, h2, h3, h4, h5, h7⟩ hpre hown hgb hV rfl
      have hmem : D ∈ givs m m [] := by obtain ⟨z, hz⟩ := hpre; rw [← hz]; simp
      have he := givs_each hmem
      have hfew := each_few (by omega) hn5 he
      have hrd : Rd Wx (some ⟨gb, 0, none⟩) D.length (nth D) := owns_rd hown
      have hQ : BlockQ m Z G (numsL D.length (nth D)) ↔ AgainstP m Z G (nth D) := by rw [numsL_nth]; exact ⟨fun h => h.2, fun h => ⟨he, h⟩⟩
      have B1 := Lib.hid h1
      have BWx := Lib.hid (show Below w.heap.size w Wx by rw [← HS.out]; exact h1)
      have NO := Lib.hid h0
      have RD := Lib.hid hrd
      have C2 := Lib.hid h2
      have F2 := Lib.hid h3
      have C3 := Lib.hid h4
      have F3 := Lib.hid h5
      have Q7 := Lib.hid h7
      have FW := Lib.hid hfew
      have HC := Lib.hid (fun (W1 : World) (h : Below Wx.heap.size Wx W1) => checks_any 80 (.agg #[.slice a m c, .slice b m d]) blockB (BlockQ m Z G) (some ⟨gb, 0, none⟩) D.length cap (nth D) W1 (enters_of Tryz.func80 (by kernel_rfl) rfl) (showsBlock m c a A L C Z d b G W1 HG.out (HA.out.below (Nat.le_refl _) (below_chain BWx.out h)) (HB.out.below (Nat.le_refl _) (below_chain BWx.out h))) (by have := FW.out.2.1; omega) (fun k hk => by have := nth_few FW.out.2.2 k hk; unfold FewDig at this; exact ⟨by omega, by omega⟩) (RD.out.below (Nat.le_refl _) h))
      have HX := Lib.hid (fun (W1 : World) (h : Below Wx.heap.size Wx W1) => proofText_any blockB D.length cap (some ⟨gb, 0, none⟩) (nth D) (.func (.func 80) #[.agg #[.slice a m c, .slice b m d]] #[]) W1 (by decide) (by have := FW.out.2.1; omega) (nth_few FW.out.2.2) (RD.out.below (Nat.le_refl _) h) (HT.out.below (Nat.le_refl _) (below_chain BWx.out h)) rfl)
      have q0 : Wx.cell? ⟨q, 0, none⟩ = some (.slice a m c) := Lib.cell_of_heap Q7.out 0
      have q1 : Wx.cell? ⟨q, 1, none⟩ = some (.slice b m d) := Lib.cell_of_heap Q7.out 1
      by_cases hag : AgainstP m Z G (nth D)
      · have T2 := Lib.hid (tt_of (hQ.2 hag))
        clear h0 h1 h2 h3 h4 h5 h7 hmem he hfew hrd hQ hpre hown hV
        gi_wp2_with (first
          | (gi_at_call 47; refine (callsIn_wide.2 (makesBlock _ _ rfl rfl _ _ _ _ _ (Below.refl _ _))).mono ?_; rintro e w5 ⟨rfl, hb5⟩; have B5 := Lib.hid hb5; have B5a := Lib.hid (below_alloc hb5 (.cells #[.string (strU blockB), .slice (some ⟨gb, 0, none⟩) D.length cap, .func (.func 80) #[.agg #[.slice a m c, .slice b m d]] #[]] 51)); have Z5 := Lib.hid (show w5.heap.size < (w5.alloc (.cells #[.string (strU blockB), .slice (some ⟨gb, 0, none⟩) D.length cap, .func (.func 80) #[.agg #[.slice a m c, .slice b m d]] #[]] 51)).heap.size by simp); clear hb5)
          | (gi_at_call 48; refine (callsIn_wide.2 (HC.out _ B5a.out)).mono ?_; rw [T2.out]; rintro e w6 ⟨rfl, hb6⟩; have R6 := Lib.hid ((hb6.block _ Z5.out).trans (heap_alloc_last w5 _)); have B6 := Lib.hid (below_chain B5a.out hb6); clear hb6; have p0 : w6.cell? ⟨w5.heap.size, 0, none⟩ = some (.string (strU blockB)) := Lib.cell_of_heap R6.out 0; have p1 : w6.cell? ⟨w5.heap.size, 1, none⟩ = some (.slice (some ⟨gb, 0, none⟩) D.length cap) := Lib.cell_of_heap R6.out 1; have p2 : w6.cell? ⟨w5.heap.size, 2, none⟩ = some (.func (.func 80) #[.agg #[.slice a m c, .slice b m d]] #[]) := Lib.cell_of_heap R6.out 2)
          | (gi_at_call 27; refine (callsIn_wide.2 (HX.out _ B6.out)).mono ?_; rw [numsL_nth]; rintro e w7 ⟨rfl, hb7⟩; have B7 := Lib.hid (below_chain B6.out hb7); clear hb7; have c7 : w7.cell? ⟨s, 0, none⟩ = some (.string ⟨#[]⟩) := (B7.out.cell (p := ⟨s, 0, none⟩) (World.block_lt_of_cell? _ _ C2.out)).trans C2.out; have f7 : w7.frozen? ⟨s, 0, none⟩ = false := (World.frozen?_of_block (w := Wx) (B7.out.block s (World.block_lt_of_cell? _ _ C2.out))).trans F2.out; have c8 : w7.cell? ⟨s + 1, 0, none⟩ = some (.bool false) := (B7.out.cell (p := ⟨s + 1, 0, none⟩) (World.block_lt_of_cell? _ _ C3.out)).trans C3.out; have f8 : w7.frozen? ⟨s + 1, 0, none⟩ = false := (World.frozen?_of_block (w := Wx) (B7.out.block (s + 1) (World.block_lt_of_cell? _ _ C3.out))).trans F3.out))
        refine ⟨?_, fun k => k ≤ q, fun k hk => .inl hk, ⟨rfl, rfl, ⟨pre, D, rfl, NO.out, hag, ?_⟩, ?_, ?_, ?_⟩⟩
        · exact ((Outside.of_below B7.out).trans' (Outside.of_grown (V := fun k => k ≤ q) (row := some s) (grownBy_setCell' _ _ _) (fun k hk => by cases hk; show s ≤ q; omega)) (fun _ _ h => h)).trans' (Outside.of_grown (V := fun k => k ≤ q) (row := some (s + 1)) (grownBy_setCell' _ _ _) (fun k hk => by cases hk; show s + 1 ≤ q; omega)) (fun _ _ h => h)
        · rw [World.cell?_of_block (Below.heap_setCell _ _ _ _ (show s ≠ s + 1 by omega))]
          exact World.cell?_setCell_same' _ _ _ (by rw [c7]; rfl)
        · exact ((B1.out.trans (B7.out.mono (by have := (Array.getElem?_eq_some_iff.1 Q7.out).1; omega))).setCell (p := ⟨s, 0, none⟩) (Nat.le_refl _) _).setCell (p := ⟨s + 1, 0, none⟩) (by show s ≤ s + 1; omega) _
        · exact World.cell?_setCell_same' _ _ _ (by rw [World.cell?_of_block (Below.heap_setCell _ _ _ _ (show s + 1 ≠ s by omega)), c8]; rfl)
        · have h9 := (Array.getElem?_eq_some_iff.1 Q7.out).1
          have := B7.out.size
          simp
          omega
      · have T2 := Lib.hid (tt_no (fun h => hag (hQ.1 h)))
        have NN := Lib.hid (show ∀ E, E ∈ pre ++ [D] → ¬ AgainstP m Z G (nth E) from fun E hE => by
          rcases List.mem_append.1 hE with hE | hE
          · exact h0 E hE
          · rw [List.mem_singleton.1 hE]; exact hag)
        clear h0 h1 h2 h3 h4 h5 h7 hmem he hfew hrd hQ hpre hown hV hag
        gi_wp2_with (first
          | (gi_at_call 47; refine (callsIn_wide.2 (makesBlock _ _ rfl rfl _ _ _ _ _ (Below.refl _ _))).mono ?_; rintro e w5 ⟨rfl, hb5⟩; have B5 := Lib.hid hb5; have B5a := Lib.hid (below_alloc hb5 (.cells #[.string (strU blockB), .slice (some ⟨gb, 0, none⟩) D.length cap, .func (.func 80) #[.agg #[.slice a m c, .slice b m d]] #[]] 51)); have Z5 := Lib.hid (show w5.heap.size < (w5.alloc (.cells #[.string (strU blockB), .slice (some ⟨gb, 0, none⟩) D.length cap, .func (.func 80) #[.agg #[.slice a m c, .slice b m d]] #[]] 51)).heap.size by simp); clear hb5)
          | (gi_at_call 48; refine (callsIn_wide.2 (HC.out _ B5a.out)).mono ?_; rw [T2.out]; rintro e w6 ⟨rfl, hb6⟩; have R6 := Lib.hid ((hb6.block _ Z5.out).trans (heap_alloc_last w5 _)); have B6 := Lib.hid (below_chain B5a.out hb6); clear hb6; have p0 : w6.cell? ⟨w5.heap.size, 0, none⟩ = some (.string (strU blockB)) := Lib.cell_of_heap R6.out 0; have p1 : w6.cell? ⟨w5.heap.size, 1, none⟩ = some (.slice (some ⟨gb, 0, none⟩) D.length cap) := Lib.cell_of_heap R6.out 1; have p2 : w6.cell? ⟨w5.heap.size, 2, none⟩ = some (.func (.func 80) #[.agg #[.slice a m c, .slice b m d]] #[]) := Lib.cell_of_heap R6.out 2))
        exact ⟨Outside.of_below B6.out, fun k => k ≤ q, fun k hk => .inl hk, ⟨rfl, NN.out, B1.out.trans (B6.out.mono (by have := (Array.getElem?_eq_some_iff.1 Q7.out).1; omega)), (B6.out.cell (p := ⟨s, 0, none⟩) (World.block_lt_of_cell? _ _ C2.out)).trans C2.out, (World.frozen?_of_block (w := Wx) (B6.out.block s (World.block_lt_of_cell? _ _ C2.out))).trans F2.out, (B6.out.cell (p := ⟨s + 1, 0, none⟩) (World.block_lt_of_cell? _ _ C3.out)).trans C3.out, (World.frozen?_of_block (w := Wx) (B6.out.block (s + 1) (World.block_lt_of_cell? _ _ C3.out))).trans F3.out, (B6.out.block q (Array.getElem?_eq_some_iff.1 Q7.out).1).trans Q7.out⟩⟩
    case done =>
      rintro D V Wx hD hV hnD ⟨rfl, h0, h1, h2, h3, h4, h5, h7⟩ hKD
      have hn := (firstAg_none (n := m) (Z := Z) (G := G) _).2 h0
      have hno : ¬ HasB m L Z m G := fun h => h.2 hn
      have E0 := Lib.hid (prB_no hno)
      have E1 := Lib.hid (tt_no hno)
      have HBx := Lib.hid h1
      have hDs : s + 2 ≤ D := by
        have : ¬ D ≤ q := hnD
        omega
      clear h0 h1 hn hno h7
      gi_wp2
      have hKD2 : ((Wx.setCell ⟨s, 0, none⟩ (.string ⟨#[]⟩)).setCell ⟨s + 1, 0, none⟩ (.bool false)).heap[D]? = some (.deferred (some [])) :=
        ((Below.heap_setCell _ _ _ _ (show D ≠ s + 1 by omega)).trans (Below.heap_setCell _ _ _ _ (show D ≠ s by omega))).trans hKD
      refine ⟨by simp, .inl ⟨_, _, rfl, run_takeDeferred hKD2, ?_⟩⟩
      refine ⟨_, results_cells rfl _ _ ⟨s, 0, none⟩ ⟨s + 1, 0, none⟩ (.string ⟨#[]⟩) (.bool false) _ _ rfl rfl Tryz.underlying9 rfl Tryz.underlying4 rfl ?_ ?_, ?_, ?_⟩
      · rw [World.cell?_of_block (World.putObj_heap_other (show s ≠ D by omega)), World.cell?_of_block (Below.heap_setCell _ _ _ _ (show s ≠ s + 1 by omega))]
        exact World.cell?_setCell_same' _ _ _ (by rw [h2]; rfl)
      · rw [World.cell?_of_block (World.putObj_heap_other (show s + 1 ≠ D by omega))]
        exact World.cell?_setCell_same' _ _ _ (by rw [World.cell?_of_block (Below.heap_setCell _ _ _ _ (show s + 1 ≠ s by omega)), h4]; rfl)
      · rw [E0.out, E1.out]; rfl
      · rw [← HS.out]
        refine below_inside (V := fun k => k ≤ q) ((HBx.out.setCell (p := ⟨s, 0, none⟩) (Nat.le_refl _) _).setCell (p := ⟨s + 1, 0, none⟩) (by show s ≤ s + 1; omega) _) (Inside.putObj (V := fun k => k ≤ q) hnD _) (fun k hk => show k ≤ q by omega)
    case stop =>
      rintro D c' V pre Wx hD hV hnD hpre ⟨rfl, rfl, ⟨P, D1, rfl, h0, h1, h2⟩, h3, h4, h7⟩ hKD
      have hf : firstAg m Z G (givs m m []) = some D1 := by
        obtain ⟨z, hz⟩ := hpre
        rw [← hz, List.append_assoc]
        exact firstAg_at P D1 z h0 h1
      have E0 := Lib.hid (prB_yes HG.out hf)
      have E1 := Lib.hid (tt_of (show HasB m L Z m G from ⟨HG.out, by rw [hf]; simp⟩))
      have HBx := Lib.hid h3
      have hDs : s + 2 ≤ D := by
        have : ¬ D ≤ q := hnD
        omega
      clear h0 h1 h3 hf hpre
      gi_wp2
      refine ⟨by simp, .inl ⟨_, _, rfl, run_takeDeferred hKD, ?_⟩⟩
      refine ⟨_, results_cells rfl _ _ ⟨s, 0, none⟩ ⟨s + 1, 0, none⟩ (.string (strU (wordsB blockB D1))) (.bool true) _ _ rfl rfl Tryz.underlying9 rfl Tryz.underlying4 rfl ?_ ?_, ?_, ?_⟩
      · rw [World.cell?_of_block (World.putObj_heap_other (show s ≠ D by omega))]; exact h2
      · rw [World.cell?_of_block (World.putObj_heap_other (show s + 1 ≠ D by omega))]; exact h4
      · rw [E0.out, E1.out]
      · rw [← HS.out]
        exact below_inside (V := fun k => k ≤ q) HBx.out (Inside.putObj (V := fun k => k ≤ q) hnD _) (fun k hk => show k ≤ q by omega)
  · have T1 := Lib.hid (tt_no hg)
    have E0 := Lib.hid (prB_no (show ¬ HasB n L Z m G from fun h => hg h.1))
    have E1 := Lib.hid (tt_no (show ¬ HasB n L Z m G from fun h => hg h.1))
    clear hg ha0 hb1 hT
    gi_wp2_with (gi_at_call 45; refine (callsIn_wide.2 H1.out).mono ?_; rw [T1.out]; rintro e w0 ⟨rfl, hb0⟩; simp only [World.size_alloc] at hb0; have hz0 : w.heap.size + 1 + 1 ≤ w0.heap.size := (by have := hb0.size; simpa using this); have BW := Lib.hid (hb0.alloc hz0 (.cells #[.slice none 0 0, .slice none 0 0] 71)); have C0 := (BW.out.cell (p := ⟨w.heap.size, 0, none⟩) (show w.heap.size < w.heap.size + 1 + 1 by omega)).trans (show _ = some (.string ⟨#[]⟩) by rw [World.cell?_of_block (w := w.alloc _) (Below.heap_alloc _ _ _ (by simp))]; simp); have C1 := (BW.out.cell (p := ⟨w.heap.size + 1, 0, none⟩) (show w.heap.size + 1 < w.heap.size + 1 + 1 by omega)).trans (show _ = some (.bool false) by simp); have F0 : (w0.alloc (.cells #[.slice none 0 0, .slice none 0 0] 71)).frozen? ⟨w.heap.size, 0, none⟩ = false := (by rw [World.frozen?_of_block (w := (w.alloc _).alloc _) (BW.out.block w.heap.size (by omega)), World.frozen?_of_block (w := w.alloc _) (Below.heap_alloc _ _ _ (by simp))]; simp); have F1 : (w0.alloc (.cells #[.slice none 0 0, .slice none 0 0] 71)).frozen? ⟨w.heap.size + 1, 0, none⟩ = false := (by rw [World.frozen?_of_block (w := (w.alloc _).alloc _) (BW.out.block (w.heap.size + 1) (by omega))]; simp))
    refine ⟨_, results_cells rfl _ _ ⟨w.heap.size, 0, none⟩ ⟨w.heap.size + 1, 0, none⟩ (.string ⟨#[]⟩) (.bool false) _ _ rfl rfl Tryz.underlying9 rfl Tryz.underlying4 rfl ?_ ?_, ?_, ?_⟩
    · rw [World.cell?_of_block (Below.heap_setCell _ _ _ _ (show w.heap.size ≠ w.heap.size + 1 by omega))]
      exact World.cell?_setCell_same' _ _ _ (by rw [C0]; rfl)
    · exact World.cell?_setCell_same' _ _ _ (by rw [World.cell?_of_block (Below.heap_setCell _ _ _ _ (show w.heap.size + 1 ≠ w.heap.size by omega)), C1]; rfl)
    · rw [E0.out, E1.out]; rfl
    · exact ((((below_alloc (below_alloc (Below.refl _ w) _) _).trans (BW.out.mono (by omega))).setCell (p := ⟨w.heap.size, 0, none⟩) (Nat.le_refl _) _).setCell (p := ⟨w.heap.size + 1, 0, none⟩) (by show w.heap.size ≤ w.heap.size + 1; omega) _)
end Go.Proofs.YtabdbgnkiebcdaaGreatDoor

namespace Go.Proofs.YtabdbgnkiebcdaaGreatDoor
set_option linter.unusedVariables false
set_option linter.unusedSimpArgs false
open Go.RowKit

set_option maxRecDepth 100000 in
set_option maxHeartbeats 3200000 in
theorem proofBlockIs_any (n c : Nat) (a : Option Addr) (A : Nat → Option Addr) (L C : Nat → Nat) (Z : Nat → Nat → Int) (m d : Nat) (b : Option Addr) (G : Nat → Int) (t : ByteArray) (w : World) (hT : PowAt w) (hE : NumErrAt w) (hn0 : n ≤ 1048576) (hL0 : ∀ r, r < n → L r ≤ 1048576) (ha0 : Tab w a n A L C Z) (hm1 : m ≤ 1048576) (hb1 : Rd w b m G) (ht : t.size ≤ 1048576) :
    Calls Tryz.prog 17 #[.slice a n c, .slice b m d, .string t] w fun e w' => e = .returned (.bool (tt (PrB n L Z m G t))) ∧ Below w.heap.size w w' := by
  have H1 := Lib.hid (readGivenHouses_any n c a A L C Z m d b G w hn0 hL0 ha0 hm1 hb1)
  by_cases hg : GivenOk n L Z m G
  · have T1 := Lib.hid (tt_of hg)
    have hmn := hg.2.1
    subst hmn
    have hn2 := hg.1.1.1
    have hn5 := hg.1.1.2
    have PB := Lib.hid (fun (w1 : World) (h : Below w.heap.size w w1) => isProof_any 47 80 (.agg #[.slice a m c, .slice b m d]) blockB (BlockQ m Z G) t w1 rfl (enters_of Tryz.func47 (by kernel_rfl) rfl) (enters_of Tryz.func80 (by kernel_rfl) rfl) (makesBlock _ _ rfl rfl w1) (showsBlock m c a A L C Z d b G w1 hg (ha0.below (Nat.le_refl _) h) (hb1.below (Nat.le_refl _) h)) blockB_ok (by decide) (fun D h => block_few (by omega) hn5 h) ht (hE.below (Nat.le_refl _) h) (hT.below (Nat.le_refl _) h))
    have E := Lib.hid (show tt (ProofP blockB (BlockQ m Z G) t) = tt (PrB m L Z m G t) from tt_congr ⟨fun h => ⟨hg, h⟩, fun h => h.2⟩)
    clear hg ha0 hb1 hT hE
    go_enter Tryz.func17, Tryz.ntmps17
    go_wp2_with (first
      | (go_at_call 45; refine H1.out.mono ?_; rw [T1.out]; rintro e w0 ⟨rfl, hb0⟩; have B0 := Lib.hid (below_alloc hb0 (.cells #[.slice a m c, .slice b m d] 71)); clear hb0)
      | (go_at_call 34; refine (PB.out _ B0.out).mono ?_; rintro e w1 ⟨rfl, hb1⟩; rw [E.out]; have B1 := Lib.hid (below_chain B0.out hb1); clear hb1))
    go_ret
    exact ⟨rfl, B1.out⟩
  · have T1 := Lib.hid (tt_no hg)
    have E := Lib.hid (tt_no (show ¬ PrB n L Z m G t from fun h => hg h.1))
    clear hg ha0 hb1 hT hE
    go_enter Tryz.func17, Tryz.ntmps17
    go_wp2_with (go_at_call 45; refine H1.out.mono ?_; rw [T1.out]; rintro e w0 ⟨rfl, hb0⟩; have B0 := Lib.hid hb0; clear hb0)
    go_ret
    exact ⟨by rw [E.out]; rfl, below_alloc B0.out _⟩
end Go.Proofs.YtabdbgnkiebcdaaGreatDoor

namespace Go.Proofs.YtabdbgnkiebcdaaGreatDoor
set_option linter.unusedVariables false
set_option linter.unusedSimpArgs false
open Go.RowKit

/-- The library's table lies in its variable. -/
def TzAt (w : World) : Prop := ∀ j, j < 64 → w.cell? ⟨5, j, none⟩ = some (.int .u8 ((Lib.deBruijn64tab.getD j 0 : Nat) : Int))
theorem TzAt.below {w w' : World} {B : Nat} (h : TzAt w) (hB : w.heap.size ≤ B) (hb : Below B w w') : TzAt w' := fun j hj =>
  (hb.cell (p := ⟨_, j, none⟩) (Nat.lt_of_lt_of_le (World.block_lt_of_cell? _ _ (h j hj)) hB)).trans (h j hj)

set_option maxHeartbeats 800000 in
theorem tz64_any (x k idx : Nat) (w : World) (hx0 : ((x : Int) == 0) = false)
    (key : IntKind.u64.wrap (bits BinOp.and IntKind.u64 (x : Int) (IntKind.u64.wrap (-(x : Int))) * 285870213051353865) / 288230376151711744 = (idx : Int))
    (hi : idx < 64) (hk : k < 64) (hcell : w.cell? ⟨5, idx, none⟩ = some (.int .u8 k)) :
    Calls Tryz.prog 157 #[.int .u64 x] w fun e w' => e = .returned (.int .i64 k) ∧ w = w' := by
  have g1 : Tryz.prog.globals[5]? = Tryz.prog.globals[5]? := rfl
  go_enter Tryz.func157, Tryz.ntmps157
  go_wp2_with (simp only [key])
  go_ret
  exact ⟨rfl, rfl⟩

set_option maxHeartbeats 800000 in
theorem trailing_any (x : Nat) (w : World) (hx0 : x ≠ 0) (hx : x < 2 ^ 62) (hT : TzAt w) :
    Calls Tryz.prog 140 #[.int .u64 x] w fun e w' => e = .returned (.int .i64 (Lib.ctz 64 x : Nat)) ∧ w = w' := by
  obtain ⟨hlow, hk⟩ := Lib.lowest_bit 64 x hx0 (by omega)
  obtain ⟨hi, htab⟩ := Lib.deBruijn64_at _ hk
  have hcell := hT _ hi
  rw [htab] at hcell
  have H := Lib.hid (tz64_any x _ _ w (by simp; omega) (tz64_key x _ (by omega) hx0 hlow) hi hk hcell)
  clear hlow hk hi htab hcell hT
  go_enter Tryz.func140, Tryz.ntmps140
  go_wp2_with (go_at_call 157; refine H.out.mono ?_; rintro e w' ⟨rfl, rfl⟩)
  go_ret
  exact ⟨rfl, rfl⟩
/-- The lowest one of a set. -/
theorem ctz_bit {x : Nat} (hx0 : x ≠ 0) (hx : x < 2 ^ 64) : x.testBit (Lib.ctz 64 x) = true := by
  unfold Lib.ctz
  rw [if_neg hx0]
  obtain ⟨m, hm, _⟩ := Lib.ctzFrom_spec 64 x (by omega) hx
  obtain ⟨k, hk⟩ : ∃ k, k = Lib.ctzFrom 64 x := ⟨_, rfl⟩
  rw [← hk] at hm ⊢
  rw [hm, Nat.mul_comm, Nat.testBit_mul_two_pow]
  simp
end Go.Proofs.YtabdbgnkiebcdaaGreatDoor

namespace Go.Proofs.YtabdbgnkiebcdaaGreatDoor
set_option linter.unusedVariables false
set_option linter.unusedSimpArgs false
open Go.RowKit

/-- What improves promises for a set of people. -/
def ImprovesAt (n c : Nat) (a : Option Addr) (A : Nat → Option Addr) (L C : Nat → Nat) (Z : Nat → Nat → Int) (d : Nat) (g : Option Addr) (G : Nat → Int) (S : Nat) : Prop :=
  ∀ (H : Nat) (b : Bool) (w : World), S < 2 ^ n → H < 2 ^ n → Tab w a n A L C Z → Rd w g n G → TzAt w →
    Calls Tryz.prog 121 #[.slice a n c, .slice g n d, .int .i64 (S : Nat), .int .i64 (H : Nat), .bool b] w fun e w' => e = .returned (.bool (tt (ImpP n Z G S H b))) ∧ Below w.heap.size w w'

set_option maxRecDepth 100000 in
set_option maxHeartbeats 6400000 in
theorem improves_any (n c : Nat) (a : Option Addr) (A : Nat → Option Addr) (L C : Nat → Nat) (Z : Nat → Nat → Int) (d : Nat) (g : Option Addr) (G : Nat → Int) (hg : GivenOk n L Z n G) (S : Nat) : ImprovesAt n c a A L C Z d g G S := by
  induction S using Nat.strongRecOn with
  | ind S ih =>
    intro H b w hS hH ha hb hT
    have hn5 := hg.1.1.2
    have hp5 : (2 : Nat) ^ n ≤ 32 := Nat.pow_le_pow_right (show 0 < 2 by omega) hn5
    by_cases h0 : S = 0
    · subst h0
      have HE := Lib.hid (show tt (ImpP n Z G 0 H b) = b by
        cases b
        · exact tt_no (fun h => by have := impP_zero.1 h; cases this)
        · exact tt_of (impP_zero.2 rfl))
      clear ih ha hb hT hg
      go_enter Tryz.func121, Tryz.ntmps121
      go_wp2
      go_ret
      exact ⟨by rw [HE.out]; rfl, Below.refl _ _⟩
    · have hbit := ctz_bit h0 (show S < 2 ^ 64 by omega)
      have hTR := Lib.hid (trailing_any S w h0 (by omega) hT)
      obtain ⟨p, hp⟩ : ∃ p, p = Lib.ctz 64 S := ⟨_, rfl⟩
      rw [← hp] at hbit
      have QP := Lib.hid hp
      have hpn := bit_lt hS hbit
      obtain ⟨ba, oa, rfl, hcp, hrp⟩ := ha p hpn
      rw [(hg.1.2 p hpn).1] at hcp hrp
      obtain ⟨bg, og, rfl, hcg⟩ := hb p hpn
      obtain ⟨y, hy⟩ : ∃ y, y = G p := ⟨_, rfl⟩
      rw [← hy] at hcg
      have QY := Lib.hid hy
      have HG := Lib.hid hg
      have HD := Lib.hid (hg.1.2 p hpn).2
      have HA := Lib.hid ha
      have HB := Lib.hid hb
      have HT := Lib.hid hT
      have HRp := Lib.hid hrp
      have HBit := Lib.hid hbit
      have IH := Lib.hid ih
      obtain ⟨S1, hand1, hle1, hb1⟩ := bits_andNot_i64 S (2 ^ p) (by omega) (two_pow_lt (by omega))
      rw [← wrap_pow (show p < 62 by omega)] at hand1
      have hS1 : ∀ y, S1.testBit y = (S.testBit y && !decide (y = p)) := fun y => by
        rw [hb1 y, Nat.testBit_two_pow]
        by_cases e : y = p
        · subst e; simp
        · have : ¬ p = y := fun h => e h.symm
          simp [e, this]
      have hlt1 : S1 < S := by
        rcases Nat.lt_or_eq_of_le hle1 with h | h
        · exact h
        · have := hS1 p
          rw [h, hbit] at this
          simp at this
      have HS1 := Lib.hid hS1
      have hwc : IntKind.u64.wrap (S : Int) = (S : Int) := by rw [IntKind.wrap_u64]; omega
      have hz : ((S : Int) == 0) = false := by simp; omega
      have p1 : (0 : Int) ≤ (p : Int) := by omega
      have p2 : (p : Int) < (n : Int) := by omega
      have hwl := World.block_lt_of_cell? _ _ hcp
      clear ih ha hb hT hg hbit hb1 hS1 hle1 hp hy hrp
      go_enter Tryz.func121, Tryz.ntmps121
      go_wp2_with (go_at_call 140; refine hTR.out.mono ?_; rintro e w' ⟨rfl, rfl⟩; rw [← QP.out])
      go_loopw [13, 14, 26] (fun _ _ s wr => ∃ k : Nat, k ≤ n ∧ s = .int .i64 k ∧ Below w.heap.size w wr ∧ ∀ j, j < k → Tried n Z G S H b p (Z p j).toNat ∧ Z p j ≠ y) (fun _ _ s _ => n - (intOf s).toNat)
      case atStart => exact ⟨0, Nat.zero_le _, rfl, Below.refl _ _, fun j hj => absurd hj (Nat.not_lt_zero _)⟩
      case round =>
        obtain ⟨k, hk, rfl, hB, hF⟩ := hrel
        have BR := Lib.hid hB
        have TR := Lib.hid hF
        clear hB hF
        by_cases hlt : k < n
        · obtain ⟨br, or, hrow, hck⟩ := (HRp.out.below (Nat.le_refl _) BR.out) k hlt
          obtain ⟨x, hx, hxn⟩ := diff_nat HD.out hlt
          rw [hx] at hck
          have QX := Lib.hid hx
          have hcg2 := (BR.out.cell (p := ⟨bg, og + p, none⟩) (World.block_lt_of_cell? _ _ hcg)).trans hcg
          rw [hrow]
          have HF2 := Lib.hid (show ∀ j, j < k → Tried n Z G S H b p (Z p j).toNat from fun j hj => (TR.out j hj).1)
          have hIdx := Lib.hid (show idxF (Z p) (x : Nat) n ≤ idxF (Z p) (G p) n by
            have e1 : idxF (Z p) (x : Nat) n = k := by rw [← QX.out]; exact idx_diff HD.out hlt
            obtain ⟨j, hj, ej⟩ := HD.out.all (r := (G p).toNat) (by have := HG.out.at hpn; have h1 := this.1; have h2 := this.2; omega)
            have ej2 : Z p j = G p := by rw [ej]; have := (HG.out.at hpn).1; omega
            have e2 : idxF (Z p) (G p) n = j := by rw [← ej2]; exact idx_diff HD.out hj
            rw [e1, e2]
            have : ¬ j < k := fun h => (TR.out j h).2 (by rw [ej2, QY.out])
            omega)
          have c1 : ∀ r : Later wr, r.W.cell? ⟨br, or + k, none⟩ = some (.int .i64 x) := fun r => later_cell hck r
          have c2 : ∀ r : Later wr, r.W.cell? ⟨bg, og + p, none⟩ = some (.int .i64 y) := fun r => later_cell hcg2 r
          have hhas := bit_has H x (by omega)
          by_cases hbx : H.testBit x = true
          · rw [hbx] at hhas
            have HBX := Lib.hid hbx
            obtain ⟨H1, hand2, hle2, hb2⟩ := bits_andNot_i64 H (2 ^ x) (by omega) (two_pow_lt (by omega))
            rw [← wrap_pow (show x < 62 by omega)] at hand2
            have hH1 : ∀ y, H1.testBit y = (H.testBit y && !decide (y = x)) := fun y => by
              rw [hb2 y, Nat.testBit_two_pow]
              by_cases e : y = x
              · subst e; simp
              · have : ¬ x = y := fun h => e h.symm
                simp [e, this]
            have HH1 := Lib.hid hH1
            have IHC := Lib.hid (fun (bb : Bool) (r : Later wr) => IH.out S1 hlt1 H1 bb r.W (by omega) (by omega) (HA.out.below (Nat.le_refl _) (BR.out.trans (r.h.mono BR.out.size))) (HB.out.below (Nat.le_refl _) (BR.out.trans (r.h.mono BR.out.size))) (HT.out.below (Nat.le_refl _) (BR.out.trans (r.h.mono BR.out.size))))
            clear hH1 hb2 hle2 hbx
            by_cases hi : ImpP n Z G S1 H1 (b || !(decide ((x : Int) = y)))
            · have HE := Lib.hid (tt_of (impP_take HBit.out HBX.out HS1.out HH1.out hIdx.out (by rw [← QY.out]; exact hi)))
              have IHX := Lib.hid (fun r : Later wr => (show Calls Tryz.prog 121 #[.slice (some ⟨ba, oa, none⟩) n c, .slice (some ⟨bg, og, none⟩) n d, .int .i64 (S1 : Nat), .int .i64 (H1 : Nat), .bool (b || !(decide ((x : Int) = y)))] r.W fun e w' => e = .returned (.bool true) ∧ Below r.W.heap.size r.W w' from by
                have := IHC.out (b || !(decide ((x : Int) = y))) r
                rwa [tt_of hi] at this))
              clear hi IHC
              by_cases hs : (x : Int) = y
              · have d1 : ((x : Int) == y) = true := by simp [hs]
                have d3 : decide ((x : Int) = y) = true := decide_eq_true hs
                have QD := Lib.hid d3
                rw [d3] at IHX
                clear hs d3
                cases b
                all_goals (
                  go_wp2
                  refine wp_region_later (by kernel_rfl) (by kernel_rfl) ?_
                  repeat go_big_quiet_step (((go_at_call 121; exact calls_later _ (IHX.out _))))
                  refine wpQuiet_nil ?_
                  rintro _ ⟨r, rfl⟩
                  have BL := Lib.hid (BR.out.trans (r.h.mono BR.out.size))
                  clear IHX c1 c2
                  go_wp2
                  go_ret
                  exact ⟨by rw [HE.out]; rfl, BL.out⟩)
              · have d1 : ((x : Int) == y) = false := by simp [hs]
                have d3 : decide ((x : Int) = y) = false := decide_eq_false hs
                rw [d3] at IHX
                clear hs d3
                cases b
                all_goals (
                  go_wp2
                  refine wp_region_later (by kernel_rfl) (by kernel_rfl) ?_
                  repeat go_big_quiet_step (((go_at_call 121; exact calls_later _ (IHX.out _))))
                  refine wpQuiet_nil ?_
                  rintro _ ⟨r, rfl⟩
                  have BL := Lib.hid (BR.out.trans (r.h.mono BR.out.size))
                  clear IHX c1 c2
                  go_wp2
                  go_ret
                  exact ⟨by rw [HE.out]; rfl, BL.out⟩)
            · have TK := Lib.hid (show Tried n Z G S H b p (Z p k).toNat by rw [QX.out]; exact tried_of HS1.out HH1.out (by rw [← QY.out]; exact hi))
              have IHX := Lib.hid (fun r : Later wr => (show Calls Tryz.prog 121 #[.slice (some ⟨ba, oa, none⟩) n c, .slice (some ⟨bg, og, none⟩) n d, .int .i64 (S1 : Nat), .int .i64 (H1 : Nat), .bool (b || !(decide ((x : Int) = y)))] r.W fun e w' => e = .returned (.bool false) ∧ Below r.W.heap.size r.W w' from by
                have := IHC.out (b || !(decide ((x : Int) = y))) r
                rwa [tt_no hi] at this))
              clear hi IHC
              by_cases hs : (x : Int) = y
              · have d1 : ((x : Int) == y) = true := by simp [hs]
                have HE := Lib.hid (tt_no (no_imp (k := k + 1) HBit.out hH HD.out (by omega) (fun j hj => by
                  by_cases e : j = k
                  · rw [e]; exact TK.out
                  · exact HF2.out j (by omega)) (.inr ⟨k, rfl, by rw [QX.out, hs, QY.out]⟩)))
                have d3 : decide ((x : Int) = y) = true := decide_eq_true hs
                rw [d3] at IHX
                clear hs d3
                cases b
                all_goals (
                  go_wp2
                  refine wp_region_later (by kernel_rfl) (by kernel_rfl) ?_
                  repeat go_big_quiet_step (((go_at_call 121; exact calls_later _ (IHX.out _))))
                  refine wpQuiet_nil ?_
                  rintro _ ⟨r, rfl⟩
                  have BL := Lib.hid (BR.out.trans (r.h.mono BR.out.size))
                  clear IHX c1 c2
                  go_wp2
                  go_ret
                  exact ⟨by rw [HE.out]; rfl, BL.out⟩)
              · have d1 : ((x : Int) == y) = false := by simp [hs]
                have HNE := Lib.hid hs
                have d3 : decide ((x : Int) = y) = false := decide_eq_false hs
                rw [d3] at IHX
                clear hs d3
                cases b
                all_goals (
                  go_wp2
                  refine wp_region_later (by kernel_rfl) (by kernel_rfl) ?_
                  repeat go_big_quiet_step (((go_at_call 121; exact calls_later _ (IHX.out _))))
                  refine wpQuiet_nil ?_
                  rintro _ ⟨r, rfl⟩
                  have BL := Lib.hid (BR.out.trans (r.h.mono BR.out.size))
                  clear IHX c1 c2
                  go_wp2
                  go_roundw
                  case rel => exact ⟨k + 1, by omega, by go_num, BL.out, fun j hj => by
                    by_cases e : j = k
                    · rw [e]; exact ⟨TK.out, by rw [QX.out]; exact HNE.out⟩
                    · exact TR.out j (by omega)⟩
                  case measure => simp [intOf]; omega)
          · have hbx' : H.testBit x = false := by simpa using hbx
            rw [hbx'] at hhas
            have TK := Lib.hid (show Tried n Z G S H b p (Z p k).toNat by rw [QX.out]; exact tried_no hbx')
            clear hbx hbx'
            by_cases hs : (x : Int) = y
            · have d1 : ((x : Int) == y) = true := by simp [hs]
              have HE := Lib.hid (tt_no (no_imp (k := k + 1) HBit.out hH HD.out (by omega) (fun j hj => by
                by_cases e : j = k
                · rw [e]; exact TK.out
                · exact HF2.out j (by omega)) (.inr ⟨k, rfl, by rw [QX.out, hs, QY.out]⟩)))
              clear hs
              go_wp2
              refine wp_region_later (by kernel_rfl) (by kernel_rfl) ?_
              repeat go_big_quiet_step (fail)
              refine wpQuiet_nil ?_
              rintro _ ⟨r, rfl⟩
              have BL := Lib.hid (BR.out.trans (r.h.mono BR.out.size))
              clear c1 c2
              go_wp2
              go_ret
              exact ⟨by rw [HE.out]; rfl, BL.out⟩
            · have d1 : ((x : Int) == y) = false := by simp [hs]
              have HNE := Lib.hid hs
              clear hs
              go_wp2
              refine wp_region_later (by kernel_rfl) (by kernel_rfl) ?_
              repeat go_big_quiet_step (fail)
              refine wpQuiet_nil ?_
              rintro _ ⟨r, rfl⟩
              have BL := Lib.hid (BR.out.trans (r.h.mono BR.out.size))
              clear c1 c2
              go_wp2
              go_roundw
              case rel => exact ⟨k + 1, by omega, by go_num, BL.out, fun j hj => by
                by_cases e : j = k
                · rw [e]; exact ⟨TK.out, by rw [QX.out]; exact HNE.out⟩
                · exact TR.out j (by omega)⟩
              case measure => simp [intOf]; omega
        · obtain rfl : k = n := by omega
          have HE := Lib.hid (tt_no (no_imp HBit.out hH HD.out (Nat.le_refl _) (fun j hj => (TR.out j hj).1) (.inl rfl)))
          go_wp2
          go_ret
          exact ⟨by rw [HE.out]; rfl, BR.out⟩
end Go.Proofs.YtabdbgnkiebcdaaGreatDoor

namespace Go.Proofs.YtabdbgnkiebcdaaGreatDoor
set_option linter.unusedVariables false
set_option linter.unusedSimpArgs false
open Go.RowKit

theorem blocks_any (n c : Nat) (a : Option Addr) (A : Nat → Option Addr) (L C : Nat → Nat) (Z : Nat → Nat → Int) (d : Nat) (g : Option Addr) (G : Nat → Int) (S : Nat) (w : World) (hg : GivenOk n L Z n G) (hS : S < 2 ^ n) (ha : Tab w a n A L C Z) (hb : Rd w g n G) (hT : TzAt w) :
    Calls Tryz.prog 87 #[.slice a n c, .slice g n d, .int .i64 (S : Nat)] w fun e w' => e = .returned (.bool (tt (BlocksP n Z G S))) ∧ Below w.heap.size w w' := by
  have H := Lib.hid (improves_any n c a A L C Z d g G hg S S false w hS hS ha hb hT)
  clear hg ha hb hT
  go_enter Tryz.func87, Tryz.ntmps87
  go_wp2_with (go_at_call 121; refine H.out.mono ?_; rintro e w1 ⟨rfl, hb1⟩; have B1 := Lib.hid hb1; clear hb1)
  go_ret
  exact ⟨rfl, B1.out⟩
end Go.Proofs.YtabdbgnkiebcdaaGreatDoor

namespace Go.Proofs.YtabdbgnkiebcdaaGreatDoor
set_option linter.unusedVariables false
set_option linter.unusedSimpArgs false
open Go.RowKit

set_option maxHeartbeats 800000 in
theorem firm_any (n c : Nat) (a : Option Addr) (A : Nat → Option Addr) (L C : Nat → Nat) (Z : Nat → Nat → Int) (d : Nat) (g : Option Addr) (G : Nat → Int) (w : World) (hg : GivenOk n L Z n G) (ha : Tab w a n A L C Z) (hb : Rd w g n G) (hT : TzAt w) :
    Calls Tryz.prog 53 #[.slice a n c, .slice g n d] w fun e w' => e = .returned (.bool (tt (FirmP n Z G))) ∧ Below w.heap.size w w' := by
  have hn5 := hg.1.1.2
  have h2 : (2 : Nat) ^ n ≤ 32 := Nat.pow_le_pow_right (show 0 < 2 by omega) hn5
  have h1 : 1 ≤ (2 : Nat) ^ n := Nat.pow_pos (by omega)
  have HB := Lib.hid (fun (S : Nat) (hS : S < 2 ^ n) w1 (h : Below w.heap.size w w1) => blocks_any n c a A L C Z d g G S w1 hg hS (ha.below (Nat.le_refl _) h) (hb.below (Nat.le_refl _) h) (hT.below (Nat.le_refl _) h))
  obtain ⟨E, hE⟩ : ∃ E, E = 2 ^ n := ⟨_, rfl⟩
  have QE := Lib.hid hE
  rw [← hE] at h1 h2
  clear hg ha hb hT hE
  go_enter Tryz.func53, Tryz.ntmps53
  go_wp2
  go_loopw [5] (fun s wr => ∃ k : Nat, 1 ≤ k ∧ k ≤ E ∧ s = .int .i64 k ∧ Below w.heap.size w wr ∧ ∀ S, 1 ≤ S → S < k → ¬ BlocksP n Z G S) (fun s _ => E - (intOf s).toNat)
  case atStart => exact ⟨1, Nat.le_refl _, h1, rfl, Below.refl _ _, fun S h1 h2 => by omega⟩
  case round =>
    obtain ⟨k, hk1, hk2, rfl, hB, hno⟩ := hrel
    have BR := Lib.hid hB
    have NO := Lib.hid hno
    clear hB hno
    by_cases hlt : k < E
    · have d1 : decide ((k : Int) ≤ (E : Int) - 1) = true := by simp; omega
      have HC := Lib.hid (HB.out k (by rw [← QE.out]; exact hlt) _ BR.out)
      by_cases hbk : BlocksP n Z G k
      · have T1 := Lib.hid (tt_of hbk)
        have HF := Lib.hid (tt_no (show ¬ FirmP n Z G from fun h => h k hk1 (by rw [← QE.out]; exact hlt) hbk))
        clear hbk
        go_wp2_with (first
          | (go_at_call 86; refine (everybody_any n c a _ hn5).mono ?_; rintro e w' ⟨rfl, rfl⟩; rw [← QE.out])
          | (go_at_call 87; refine HC.out.mono ?_; rintro e w1 ⟨rfl, hb1⟩; rw [T1.out]; have B1 := Lib.hid (BR.out.trans (hb1.mono BR.out.size)); clear hb1))
        go_ret
        exact ⟨by rw [HF.out]; rfl, B1.out⟩
      · have T1 := Lib.hid (tt_no hbk)
        have HN := Lib.hid hbk
        clear hbk
        go_wp2_with (first
          | (go_at_call 86; refine (everybody_any n c a _ hn5).mono ?_; rintro e w' ⟨rfl, rfl⟩; rw [← QE.out])
          | (go_at_call 87; refine HC.out.mono ?_; rintro e w1 ⟨rfl, hb1⟩; rw [T1.out]; have B1 := Lib.hid (BR.out.trans (hb1.mono BR.out.size)); clear hb1))
        go_roundw
        case rel => exact ⟨k + 1, by omega, by omega, by go_num, B1.out, fun S h1 h2 => by
          by_cases e : S = k
          · rw [e]; exact HN.out
          · exact NO.out S h1 (by omega)⟩
        case measure => simp [intOf]; omega
    · obtain rfl : k = E := by omega
      have d1 : decide ((k : Int) ≤ (k : Int) - 1) = false := by simp; omega
      have HF := Lib.hid (tt_of (show FirmP n Z G from fun S h1 h2 => NO.out S h1 (by rw [QE.out]; exact h2)))
      go_wp2_with (go_at_call 86; refine (everybody_any n c a _ hn5).mono ?_; rintro e w' ⟨rfl, rfl⟩; rw [← QE.out])
      go_ret
      exact ⟨by rw [HF.out]; rfl, BR.out⟩
end Go.Proofs.YtabdbgnkiebcdaaGreatDoor

namespace Go.Proofs.YtabdbgnkiebcdaaGreatDoor
set_option linter.unusedVariables false
set_option linter.unusedSimpArgs false
open Go.RowKit

theorem houseFirm_any (n c : Nat) (a : Option Addr) (A : Nat → Option Addr) (L C : Nat → Nat) (Z : Nat → Nat → Int) (m d : Nat) (b : Option Addr) (G : Nat → Int) (w : World) (hT : TzAt w) (hn0 : n ≤ 1048576) (hL0 : ∀ r, r < n → L r ≤ 1048576) (ha0 : Tab w a n A L C Z) (hm1 : m ≤ 1048576) (hb1 : Rd w b m G) :
    Calls Tryz.prog 18 #[.slice a n c, .slice b m d] w fun e w' => e = .returned (.bool (tt (FirmOk n L Z m G))) ∧ Below w.heap.size w w' := by
  have H := Lib.hid (readGiven_any n c a A L C Z m d b G w hn0 hL0 ha0 hm1 hb1)
  by_cases h1 : GivenOk n L Z m G
  · have T1 := Lib.hid (tt_of h1)
    obtain rfl : m = n := h1.2.1
    have HM := Lib.hid (firm_any m c a A L C Z d b G w h1 ha0 hb1 hT)
    have HE := Lib.hid (tt_congr (show FirmP m Z G ↔ FirmOk m L Z m G from ⟨fun h => ⟨h1, h⟩, fun h => h.2⟩))
    clear h1 ha0 hL0 hb1 hT
    go_enter Tryz.func18, Tryz.ntmps18
    go_wp2_with (first
      | (go_at_call 52; refine H.out.mono ?_; rintro e w' ⟨rfl, rfl⟩; rw [T1.out])
      | (go_at_call 53; refine HM.out.mono ?_; rintro e w1 ⟨rfl, hb⟩; rw [HE.out]; have HB := Lib.hid hb; clear hb))
    go_ret
    exact ⟨rfl, HB.out⟩
  · have T1 := Lib.hid (tt_no h1)
    have HE := Lib.hid (tt_no (show ¬ FirmOk n L Z m G from fun h => h1 h.1))
    clear h1 ha0 hL0 hb1 hT
    go_enter Tryz.func18, Tryz.ntmps18
    go_wp2_with (first
      | (go_at_call 52; refine H.out.mono ?_; rintro e w' ⟨rfl, rfl⟩; rw [T1.out]))
    go_ret
    exact ⟨by rw [HE.out]; rfl, Below.refl _ _⟩
end Go.Proofs.YtabdbgnkiebcdaaGreatDoor

namespace Go.Proofs.YtabdbgnkiebcdaaGreatDoor
set_option linter.unusedVariables false
open Go.RowKit

/-- The text is short. -/
theorem prB_size (n : Nat) (L : Nat → Nat) (Z : Nat → Nat → Int) (m : Nat) (G : Nat → Int) : (strU (prB n L Z m G)).size ≤ 1048576 := by
  rw [strU_size]
  by_cases h : HasB n L Z m G
  · obtain ⟨hg, hn⟩ := h
    cases hf : firstAg n Z G (givs n n []) with
    | none => exact absurd hf hn
    | some D =>
      rw [prB_yes hg hf]
      have h1 := each_few (by have := hg.1.1.1; omega) hg.1.1.2 (givs_each (firstAg_some _ _ hf).1)
      have h2 := words_len blockB _ h1.2.2
      have h3 := h1.2.1
      have h4 : blockB.length = 5 := rfl
      omega
  · rw [prB_no h]; simp

end Go.Proofs.YtabdbgnkiebcdaaGreatDoor

namespace Go.Proofs.YtabdbgnkiebcdaaGreatDoor
open Go.RowKit
set_option linter.unusedVariables false

def tz64L : List Int := Lib.deBruijn64tab.map fun (x : Nat) => (x : Int)
theorem tz64_len : tz64L.length = 64 := by kernel_rfl
theorem tz64_laid : (Rows.laid_math_bits_deBruijn64tab : DataW Unit) = Lib.tabData .u8 tz64L := by kernel_rfl
theorem tz64_at (j : Nat) : tz64L.getD j 0 = ((Lib.deBruijn64tab.getD j 0 : Nat) : Int) := by
  unfold tz64L
  rw [List.getD_eq_getElem?_getD, List.getD_eq_getElem?_getD, List.getElem?_map]
  cases Lib.deBruijn64tab[j]? <;> rfl
theorem tz64_g : Tryz.prog.globalNamed "math/bits.deBruijn64tab" = some 5 := by kernel_rfl
theorem tz64_ty : (Tryz.prog.globals[5]?).map (·.type) = some 177 := by kernel_rfl
theorem tz64_u : Tryz.prog.underlying 177 = some (.array 64 5) := by kernel_rfl
theorem tz64_ue : Tryz.prog.underlying 5 = some (.int .u8) := by kernel_rfl
theorem tz64_c : Tryz.prog.cellsOf 177 = 64 := by kernel_rfl
theorem tz64_ce : Tryz.prog.cellsOf 5 = 1 := by kernel_rfl
abbrev laidL : List (String × DataW Unit) := [("math/bits.deBruijn32tab", Rows.laid_math_bits_deBruijn32tab), ("math/bits.deBruijn64tab", Rows.laid_math_bits_deBruijn64tab)]
/-- What the condition gives a walk: the table's cells. -/
theorem tz_of_laid {W : World} (h : laidMet Tryz.prog laidL W) : TzAt W := by
  obtain ⟨ps, ⟨g1, t1, cs1, f1, p1, q1, a1, a2, a3, a4, h2, _⟩, _⟩ := h
  obtain ⟨g2, t2, cs2, f2, p2, q2, b1, b2, b3, b4, _, _⟩ := h2
  obtain rfl := Option.some.inj (tz64_g.symm.trans b1)
  obtain rfl := Option.some.inj (tz64_ty.symm.trans b2)
  rw [tz64_laid] at b4
  have e := Lib.cells_of_tab tz64_u tz64_ue tz64_ce tz64_c b4
  have ht : Lib.TabIs Tryz.prog W "math/bits.deBruijn64tab" .u8 tz64L := by
    unfold Lib.TabIs
    rw [b3, ← e]
  intro j hj
  rw [← tz64_at]
  exact ht.cell tz64_g j (by rw [tz64_len]; exact hj)

/-- The settled world, both tables laid. -/
noncomputable def laidWorld (os : Os) : World :=
  let w0 := World.holding Tryz.prog os ⟨#[], #[], []⟩
  { w0 with heap := (w0.heap.modify 4 fun
      | .cells _ t frozen => .cells (([0, 1, 28, 2, 29, 14, 24, 3, 30, 22, 20, 15, 25, 17, 4, 8, 31, 27, 13, 23, 21, 19, 16, 7, 26, 12, 18, 6, 11, 5, 10, 9].map fun (x : Int) => Value.int .u8 x).toArray) t frozen
      | o => o).modify 5 fun
      | .cells _ t frozen => .cells ((tz64L.map fun x => Value.int .u8 x).toArray) t frozen
      | o => o }
theorem laidWorld_met (os : Os) (args : Array Value) : laidMet Tryz.prog laidL ((laidWorld os).forCall (fun _ _ => 0) ⟨#[], args, []⟩).memory :=
  laidMet_of_run' 8 (by kernel_rfl) (by kernel_rfl)
end Go.Proofs.YtabdbgnkiebcdaaGreatDoor

namespace Go.Proofs.YtabdbgnkiebcdaaGreatDoor
set_option linter.unusedVariables false
set_option linter.unusedSimpArgs false
open Go.RowKit

theorem RdrAt.setP {w : World} {r : Nat} {a : Option Addr} {n c p : Nat} (h : RdrAt w r a n c p) (q : Nat) : RdrAt (w.setCell ⟨r, 1, none⟩ (.int .i64 (q : Int))) r a n c q := by
  have := heap_setCell_same w r 1 _ _ (.int .i64 (q : Int)) h
  unfold RdrAt
  rw [this]
  rfl

/-- A text is drawn. -/
def DrewOf (r : Nat) (a : Option Addr) (n c p B0 : Nat) (w : World) (e : Ending) (w' : World) : Prop :=
  ∃ (s : ByteArray), e = .returned (.string s) ∧ s.size ≤ B0 ∧ RdrAt w' r a n c (p + 1) ∧ Keeps r (r + 1) w w'

theorem strs_at {w : World} {g t B0 : Nat} (ss : List ByteArray) (h : w.heap[g]? = some (.cells (ss.map Value.string).toArray t (0, 0))) (hB : ∀ s, s ∈ ss → s.size ≤ B0) :
    ∀ j, j < ss.length → ∃ s : ByteArray, w.cell? ⟨g, j, none⟩ = some (.string s) ∧ s.size ≤ B0 := by
  intro j hj
  refine ⟨ss[j], ?_, hB _ (List.getElem_mem hj)⟩
  rw [cell_of_row w g j _ t (0, 0) h]
  simp [hj]

theorem strs_cells {w : World} {g t B0 m : Nat} {cs : Array Value} (h : w.heap[g]? = some (.cells cs t (0, 0))) (hB : ∀ j, j < m → ∃ s : ByteArray, cs[j]? = some (.string s) ∧ s.size ≤ B0) :
    ∀ j, j < m → ∃ s : ByteArray, w.cell? ⟨g, j, none⟩ = some (.string s) ∧ s.size ≤ B0 := by
  intro j hj
  obtain ⟨s, h1, h2⟩ := hB j hj
  exact ⟨s, by rw [cell_of_row w g j _ t (0, 0) h]; exact h1, h2⟩

set_option maxHeartbeats 1600000 in
theorem ofOne_any (r n c p m k B0 : Nat) (g : Nat) (a : Option Addr) (B : Nat → Nat) (w : World) (hR : RdrAt w r a n c p) (hb : RdB w a n B) (hab : 0 < n → ∀ b o, a = some ⟨b, o, none⟩ → b ≠ r) (hn : n ≤ 2000) (hp : p ≤ 1000000) (hm1 : 1 ≤ m) (hm : m ≤ 100) (hgr : g ≠ r)
    (hS : ∀ j, j < m → ∃ s : ByteArray, w.cell? ⟨g, j, none⟩ = some (.string s) ∧ s.size ≤ B0) :
    Calls Tryz.prog 37 #[.pointer (some ⟨r, 0, none⟩), .slice (some ⟨g, 0, none⟩) m k] w (DrewOf r a n c p B0 w) := by
  have H := Lib.hid (pick_any r n c p m a B w hR hb hab hn hp hm1 (by omega))
  have HS := Lib.hid hS
  have HGR := Lib.hid hgr
  clear hR hb hab hn hp hS hgr hm1
  go_enter Tryz.func37, Tryz.ntmps37
  go_wp2_with fail
  refine H.out.mono ?_
  rintro e w1 ⟨x, rfl, hx, hR1, hK1⟩
  obtain ⟨s, hs, hsB⟩ := HS.out x hx
  have hs1 : w1.cell? ⟨g, x, none⟩ = some (.string s) := (hK1.cell (p := ⟨g, x, none⟩) (by have := HGR.out; show g < r ∨ r + 1 ≤ g; omega)).trans hs
  have X := Lib.hid (And.intro hR1 (And.intro hK1 hsB))
  clear hR1 hK1 hs hsB
  go_wp2_with fail
  go_ret
  exact ⟨s, rfl, X.out.2.2, X.out.1, X.out.2.1⟩
end Go.Proofs.YtabdbgnkiebcdaaGreatDoor

namespace Go.Proofs.YtabdbgnkiebcdaaGreatDoor
set_option linter.unusedVariables false
set_option linter.unusedSimpArgs false
open Go.RowKit

theorem results_three' {fn : Func} {t u v : Tmp} (h : fn.results = #[.tmp t, .tmp u, .tmp v]) (tmps : Array Value) (P : Program) (w : World) :
    (results fn tmps).run P w = .ok (.tuple #[tmps.getD t undef, tmps.getD u undef, tmps.getD v undef]) w := by
  simp [results, h]
/-- Wishes, a row and a text. -/
def DrewGivenText (w : World) (e : Ending) (w' : World) : Prop :=
  ∃ ga N gc A L C Z b m d X t, e = .returned (.tuple #[.slice ga N gc, .slice b m d, .string t]) ∧ ((1 ≤ N ∧ N ≤ 5) ∧ m ≤ d ∧ m ≤ 6) ∧ (∀ s, s < N → L s ≤ 5) ∧ Tab w' ga N A L C Z ∧ Rd w' b m X ∧ t.size ≤ 1048576 ∧ Below w.heap.size w w'

set_option maxRecDepth 100000 in
set_option maxHeartbeats 3200000 in
theorem drawProofBlockIs_any (n c : Nat) (a : Option Addr) (B : Nat → Nat) (w : World) (hn : n ≤ 1048576) (hc : n ≤ c) (hb : RdB w a n B) (hab : 0 < n → ∀ b o, a = some ⟨b, o, none⟩ → b < w.heap.size) :
    Calls Tryz.prog 19 #[.slice a n c] w (DrewGivenText w) := by
  have HP := Lib.hid (l92Few_any n c a B w hn hc hb hab)
  have HB := Lib.hid hb
  have HAL := Lib.hid hab
  clear hb hab
  go_enter Tryz.func19, Tryz.ntmps19
  go_wp2_with fail
  refine HP.out.mono ?_
  rintro e w1 ⟨ga, N, gc, A, L, C, Z, b, m, d, X, rfl, ⟨⟨hN1, hN5⟩, hmd, hm6⟩, hL, hT, hX, hb1⟩
  have HL := Lib.hid hL
  have HT := Lib.hid hT
  have HX := Lib.hid hX
  have B1 := Lib.hid hb1
  clear hL hT hX hb1 HP
  go_wp2_with fail
  refine (specProofBlock_any N gc ga A L C Z m d b X _ (by omega) (fun r hr => by have := HL.out r hr; omega) HT.out (by omega) HX.out).mono ?_
  rintro e w2 ⟨rfl, hb2⟩
  have B2 := Lib.hid hb2
  obtain ⟨S, hS⟩ : ∃ S, S = strU (prB N L Z m X) := ⟨_, rfl⟩
  have SZ := Lib.hid (show S.size ≤ 1048576 by rw [hS]; exact prB_size _ _ _ _ _)
  rw [← hS]
  clear hb2 hS
  obtain ⟨ok, hok⟩ : ∃ ok, ok = tt (HasB N L Z m X) := ⟨_, rfl⟩
  rw [← hok]
  clear hok
  go_wp2_with fail
  refine (l6Open_any n c a _ hn hc).mono ?_
  rintro e w3 ⟨n', c', rfl, hn2, hnn, hR3, hs3, hb3⟩
  have c1 := hR3.cell1
  have f1 := hR3.frozen 1
  have R3 := Lib.hid hR3
  have B3 := Lib.hid hb3
  have hlt3 : w2.heap.size < w3.heap.size := by omega
  have hw2 := (below_chain B1.out B2.out).size
  have HAB := Lib.hid (show 0 < n' → ∀ b o, a = some ⟨b, o, none⟩ → b ≠ w2.heap.size from fun h0 b o e => by have := HAL.out (by omega) b o e; omega)
  clear hR3 hb3 hs3
  obtain ⟨w4, hw4⟩ : ∃ w4, w3.setCell ⟨w2.heap.size, 1, none⟩ (.int .i64 61) = w4 := ⟨_, rfl⟩
  have R4 := Lib.hid (show RdrAt w4 w2.heap.size a n' c' 61 by rw [← hw4]; exact R3.out.setP 61)
  have U4 := Lib.hid (show Below w2.heap.size w2 w4 by rw [← hw4]; exact B3.out.setCell (p := ⟨w2.heap.size, 1, none⟩) (Nat.le_refl _) _)
  have HB4 := Lib.hid (show RdB w4 a n' B from (HB.out.below (Nat.le_refl _) ((below_chain B1.out B2.out).trans (U4.out.mono hw2))).sub hnn)
  clear R3
  cases ok with
  | false =>
    go_wp2_with fail
    clear hw4 c1 f1
    refine (ofOne_any w2.heap.size n' c' 61 8 8 100 w4.heap.size a B _ (R4.out.of_block (Below.heap_alloc _ _ _ R4.out.lt)) (HB4.out.below (Nat.le_refl _) (below_alloc (Below.refl _ _) _)) HAB.out hn2 (by omega) (by omega) (by omega) (Nat.ne_of_gt R4.out.lt) (strs_cells (heap_alloc_last w4 _) ?hS1)).mono ?_
    case hS1 =>
      intro j hj
      rcases (show j = 0 ∨ j = 1 ∨ j = 2 ∨ j = 3 ∨ j = 4 ∨ j = 5 ∨ j = 6 ∨ j = 7 by omega) with rfl | rfl | rfl | rfl | rfl | rfl | rfl | rfl
      all_goals exact ⟨_, rfl, by decide⟩
    rintro e w9 ⟨t, rfl, ht, _, hK9⟩
    have B9 := Lib.hid (below_chain B2.out ((U4.out.trans (below_alloc (Below.refl _ _) _ |>.mono U4.out.size)).trans (hK9.below)))
    clear hK9
    go_wp2
    (try simp only [Exit.inBlock, Exit.then])
    refine bodyPost_ret (results_three' rfl _ _ _) rfl ?_
    exact ⟨ga, N, gc, A, L, C, Z, b, m, d, X, t, rfl, ⟨⟨hN1, hN5⟩, hmd, hm6⟩, HL.out, HT.out.below (Nat.le_refl _) B9.out, HX.out.below (Nat.le_refl _) B9.out, by omega, below_chain B1.out B9.out⟩
  | true =>
    go_wp2_with fail
    clear hw4 c1 f1
    refine (pick_any w2.heap.size n' c' 61 5 a B _ R4.out HB4.out HAB.out hn2 (by omega) (by omega) (by omega)).mono ?_
    rintro e w5 ⟨x, rfl, hx, hR5, hK5⟩
    have R5 := Lib.hid hR5
    have U5 := Lib.hid (show Below w2.heap.size w2 w5 from U4.out.trans hK5.below)
    have HB5 := Lib.hid (HB.out.below (Nat.le_refl _) ((below_chain B1.out B2.out).trans (U5.out.mono hw2)) |>.sub hnn)
    clear hR5 hK5
    rcases Nat.eq_zero_or_pos x with rfl | hpos
    · go_wp2_with fail
      refine (ofOne_any w2.heap.size n' c' (61 + 1) 8 8 100 w5.heap.size a B _ (R5.out.of_block (Below.heap_alloc _ _ _ R5.out.lt)) (HB5.out.below (Nat.le_refl _) (below_alloc (Below.refl _ _) _)) HAB.out hn2 (by omega) (by omega) (by omega) (Nat.ne_of_gt R5.out.lt) (strs_cells (heap_alloc_last w5 _) ?hS2)).mono ?_
      case hS2 =>
        intro j hj
        rcases (show j = 0 ∨ j = 1 ∨ j = 2 ∨ j = 3 ∨ j = 4 ∨ j = 5 ∨ j = 6 ∨ j = 7 by omega) with rfl | rfl | rfl | rfl | rfl | rfl | rfl | rfl
        all_goals exact ⟨_, rfl, by decide⟩
      rintro e w9 ⟨t, rfl, ht, _, hK9⟩
      have B9 := Lib.hid (below_chain B2.out ((U5.out.trans (below_alloc (Below.refl _ _) _ |>.mono U5.out.size)).trans (hK9.below)))
      clear hK9
      go_wp2
      (try simp only [Exit.inBlock, Exit.then])
      refine bodyPost_ret (results_three' rfl _ _ _) rfl ?_
      exact ⟨ga, N, gc, A, L, C, Z, b, m, d, X, t, rfl, ⟨⟨hN1, hN5⟩, hmd, hm6⟩, HL.out, HT.out.below (Nat.le_refl _) B9.out, HX.out.below (Nat.le_refl _) B9.out, by omega, below_chain B1.out B9.out⟩
    · have e1 : ((x : Int) == 0) = false := by simp; omega
      have e2 : (x == 0) = false := by simp; omega
      have B9 := Lib.hid (below_chain B2.out U5.out)
      go_wp2
      (try simp only [Exit.inBlock, Exit.then])
      refine bodyPost_ret (results_three' rfl _ _ _) rfl ?_
      exact ⟨ga, N, gc, A, L, C, Z, b, m, d, X, S, rfl, ⟨⟨hN1, hN5⟩, hmd, hm6⟩, HL.out, HT.out.below (Nat.le_refl _) B9.out, HX.out.below (Nat.le_refl _) B9.out, SZ.out, below_chain B1.out B9.out⟩
end Go.Proofs.YtabdbgnkiebcdaaGreatDoor

namespace Go.Proofs.YtabdbgnkiebcdaaGreatDoor
set_option linter.unusedVariables false
set_option linter.unusedSimpArgs false
open Go.RowKit

theorem giving_each {n m : Nat} {X : Nat → Int} (h2 : 2 ≤ n) (h5 : n ≤ 5) : GivingOk (n : Int) m X ↔ IsEach n m X := by
  constructor
  · rintro ⟨_, h3, h4⟩
    obtain rfl : m = n := by omega
    exact ⟨rfl, h4⟩
  · rintro ⟨rfl, h4⟩
    exact ⟨⟨by omega, by omega⟩, rfl, h4⟩

set_option maxRecDepth 100000 in
set_option maxHeartbeats 3200000 in
theorem specProofBlockIs_any (n c : Nat) (a : Option Addr) (A : Nat → Option Addr) (L C : Nat → Nat) (Z : Nat → Nat → Int) (m d : Nat) (b : Option Addr) (G : Nat → Int) (t : ByteArray) (w : World) (hn0 : n ≤ 1048576) (hL0 : ∀ r, r < n → L r ≤ 1048576) (ha0 : Tab w a n A L C Z) (hm1 : m ≤ 1048576) (hb1 : Rd w b m G) (ht : t.size ≤ 1048576) :
    Calls Tryz.prog 20 #[.slice a n c, .slice b m d, .string t] w fun e w' => e = .returned (.bool (tt (PrB n L Z m G t))) ∧ Below w.heap.size w w' := by
  have H1 := Lib.hid (fun (w1 : World) (h : Below w.heap.size w w1) => l3Both_any n c a A L C Z m d b G w1 hn0 hL0 (ha0.below (Nat.le_refl _) h) hm1 (hb1.below (Nat.le_refl _) h))
  by_cases hd : ∃ D, FewAll D ∧ t = strU (wordsB blockB D)
  · obtain ⟨D, hD, htD⟩ := hd
    have RY := Lib.hid (read_yes w (W := blockB) (by decide) ht hD htD)
    by_cases hg : GivenOk n L Z m G
    · have T1 := Lib.hid (tt_of hg)
      have hmn := hg.2.1
      subst hmn
      have hn2 := hg.1.1.1
      have hn5 := hg.1.1.2
      have P1 : PrB m L Z m G t ↔ IsEach m D.length (nth D) ∧ AgainstP m Z G (nth D) := by
        constructor
        · rintro ⟨_, M, h1, h2⟩
          have h3 := congrArg (fun z => z.data.toList) (htD.symm.trans h2)
          simp only [strU_list] at h3
          rw [words_inj blockB D M hD (block_few (by omega) hn5 h1).2.2 h3]
          exact h1
        · intro h; exact ⟨hg, D, h, htD⟩
      obtain ⟨q, hq⟩ : ∃ q, q = D.length := ⟨_, rfl⟩
      obtain ⟨Y, hY⟩ : ∃ Y, Y = nth D := ⟨_, rfl⟩
      rw [← hq, ← hY] at RY P1
      have HG := Lib.hid (fun (x : Option Addr) (e : Nat) (w1 : World) (hr : Rd w1 x q Y) (hq : q ≤ 1048576) => specHouseGiving_any (m : Int) q e x Y w1 ⟨by omega, by omega⟩ hq hr)
      by_cases he : IsEach m q Y
      · have T2 := Lib.hid (tt_of ((giving_each hn2 hn5).2 he))
        have hqm := he.1
        subst hqm
        have HA := Lib.hid (fun (x : Option Addr) (e : Nat) (w1 : World) (h : Below w.heap.size w w1) (hr : Rd w1 x q Y) => l11Against_any q c a A L C Z d e b x G Y w1 hg he.2 (ha0.below (Nat.le_refl _) h) (hb1.below (Nat.le_refl _) h) hr)
        have E := Lib.hid (show tt (AgainstP q Z G Y) = tt (PrB q L Z q G t) from tt_congr (P1.trans ⟨fun h => h.2, fun h => ⟨he, h⟩⟩).symm)
        clear hg he P1 hq hY htD hD ha0 hb1
        go_enter Tryz.func20, Tryz.ntmps20
        go_wp2_with (first
          | (go_at_call 38; refine RY.out.mono ?_; rintro e w1 ⟨⟨x, z, rfl, hrd⟩, hml, hb1⟩; have R1 := Lib.hid hrd; have B1 := Lib.hid hb1; have ML := Lib.hid hml; clear hrd hb1 hml)
          | (go_at_call 49; refine (H1.out _ B1.out).mono ?_; rw [T1.out]; rintro e w2 ⟨rfl, rfl⟩)
          | (go_at_call 54; refine (HG.out _ _ _ R1.out ML.out).mono ?_; rw [T2.out]; rintro e w3 ⟨rfl, hb3⟩; have B3 := Lib.hid (below_chain B1.out hb3); have R3 := Lib.hid (R1.out.below (Nat.le_refl _) hb3); clear hb3)
          | (go_at_call 51; refine (HA.out _ _ _ B3.out R3.out).mono ?_; rw [E.out]; rintro e w4 ⟨rfl, hb4⟩; have B4 := Lib.hid (below_chain B3.out hb4); clear hb4))
        go_ret
        exact ⟨rfl, B4.out⟩
      · have T2 := Lib.hid (tt_no (fun h : GivingOk (m : Int) q Y => he ((giving_each hn2 hn5).1 h)))
        have E := Lib.hid (tt_no (show ¬ PrB m L Z m G t from fun h => he (P1.1 h).1))
        clear hg he P1 hq hY htD hD ha0 hb1
        go_enter Tryz.func20, Tryz.ntmps20
        go_wp2_with (first
          | (go_at_call 38; refine RY.out.mono ?_; rintro e w1 ⟨⟨x, z, rfl, hrd⟩, hml, hb1⟩; have R1 := Lib.hid hrd; have B1 := Lib.hid hb1; have ML := Lib.hid hml; clear hrd hb1 hml)
          | (go_at_call 49; refine (H1.out _ B1.out).mono ?_; rw [T1.out]; rintro e w2 ⟨rfl, rfl⟩)
          | (go_at_call 54; refine (HG.out _ _ _ R1.out ML.out).mono ?_; rw [T2.out]; rintro e w3 ⟨rfl, hb3⟩; have B3 := Lib.hid (below_chain B1.out hb3); clear hb3))
        go_ret
        exact ⟨by rw [E.out]; rfl, B3.out⟩
    · have T1 := Lib.hid (tt_no hg)
      have E := Lib.hid (tt_no (show ¬ PrB n L Z m G t from fun h => hg h.1))
      clear hg htD hD ha0 hb1
      go_enter Tryz.func20, Tryz.ntmps20
      go_wp2_with (first
        | (go_at_call 38; refine RY.out.mono ?_; rintro e w1 ⟨⟨x, z, rfl, hrd⟩, hml, hb1⟩; have R1 := Lib.hid hrd; have B1 := Lib.hid hb1; have ML := Lib.hid hml; clear hrd hb1 hml)
        | (go_at_call 49; refine (H1.out _ B1.out).mono ?_; rw [T1.out]; rintro e w2 ⟨rfl, rfl⟩))
      go_ret
      exact ⟨by rw [E.out]; rfl, B1.out⟩
  · have RN := Lib.hid (read_no w (W := blockB) (by decide) ht (fun D hD e => hd ⟨D, hD, e⟩))
    have E := Lib.hid (tt_no (show ¬ PrB n L Z m G t from fun h => by
      obtain ⟨hg, D, h1, h2⟩ := h
      exact hd ⟨D, (block_few (by have := hg.1.1.1; omega) hg.1.1.2 h1).2.2, h2⟩))
    clear hd ha0 hb1 H1
    go_enter Tryz.func20, Tryz.ntmps20
    go_wp2_with (go_at_call 38; refine RN.out.mono ?_; rintro e w1 ⟨⟨x, y, z, rfl⟩, hb1⟩; have B1 := Lib.hid hb1; clear hb1)
    go_ret
    exact ⟨by rw [E.out]; rfl, B1.out⟩
end Go.Proofs.YtabdbgnkiebcdaaGreatDoor

namespace Go.Proofs.YtabdbgnkiebcdaaGreatDoor
set_option linter.unusedVariables false
set_option linter.unusedSimpArgs false
open Go.RowKit

/-- A pointer to block b. -/
def ptrV (b : Nat) : Value := .pointer (some ⟨b, 0, none⟩)

/-- n people: each one a block, with the list of wishes in a row behind it; whom each one points at, and who is gone. -/
structure Trd (w : World) (n : Nat) (Z : Nat → Nat → Int) (tb wb cp : Nat → Nat) (pt : Nat → Option Addr) (gn : Nat → Bool) : Prop where
  box : ∀ r, r < n → w.heap[tb r]? = some (.cells #[.int .i64 (r : Nat), .slice (some ⟨wb r, 0, none⟩) n (cp r), .pointer (pt r), .bool (gn r)] 114 (0, 0))
  inj : ∀ r s, r < n → s < n → tb r = tb s → r = s
  wish : ∀ r, r < n → ∀ k, k < n → w.cell? ⟨wb r, k, none⟩ = some (.pointer (some ⟨tb (Z r k).toNat, 0, none⟩))
  apart : ∀ r s, r < n → s < n → wb r ≠ tb s

namespace Trd
variable {w w' : World} {n : Nat} {Z : Nat → Nat → Int} {tb wb cp : Nat → Nat} {pt : Nat → Option Addr} {gn : Nat → Bool}
theorem c0 (h : Trd w n Z tb wb cp pt gn) {r : Nat} (hr : r < n) : w.cell? ⟨tb r, 0, none⟩ = some (.int .i64 (r : Nat)) := by rw [cell_of_row w _ 0 _ _ _ (h.box r hr)]; rfl
theorem c1 (h : Trd w n Z tb wb cp pt gn) {r : Nat} (hr : r < n) : w.cell? ⟨tb r, 1, none⟩ = some (.slice (some ⟨wb r, 0, none⟩) n (cp r)) := by rw [cell_of_row w _ 1 _ _ _ (h.box r hr)]; rfl
theorem c2 (h : Trd w n Z tb wb cp pt gn) {r : Nat} (hr : r < n) : w.cell? ⟨tb r, 2, none⟩ = some (.pointer (pt r)) := by rw [cell_of_row w _ 2 _ _ _ (h.box r hr)]; rfl
theorem c3 (h : Trd w n Z tb wb cp pt gn) {r : Nat} (hr : r < n) : w.cell? ⟨tb r, 3, none⟩ = some (.bool (gn r)) := by rw [cell_of_row w _ 3 _ _ _ (h.box r hr)]; rfl
theorem fz (h : Trd w n Z tb wb cp pt gn) {r : Nat} (hr : r < n) (j : Nat) : w.frozen? ⟨tb r, j, none⟩ = false := frozen_of_row w _ j _ _ (h.box r hr)
theorem lt (h : Trd w n Z tb wb cp pt gn) {r : Nat} (hr : r < n) : tb r < w.heap.size := (Array.getElem?_eq_some_iff.1 (h.box r hr)).1
/-- What turns none of these blocks keeps them. -/
theorem of_blocks (h : Trd w n Z tb wb cp pt gn) (e1 : ∀ r, r < n → w'.heap[tb r]? = w.heap[tb r]?) (e2 : ∀ r, r < n → w'.heap[wb r]? = w.heap[wb r]?) : Trd w' n Z tb wb cp pt gn :=
  ⟨fun r hr => (e1 r hr).trans (h.box r hr), h.inj, fun r hr k hk => (World.cell?_of_block (w := w) (a := ⟨wb r, k, none⟩) (e2 r hr)).trans (h.wish r hr k hk), h.apart⟩
theorem wlt (h : Trd w n Z tb wb cp pt gn) {r : Nat} (hr : r < n) : wb r < w.heap.size := World.block_lt_of_cell? w ⟨wb r, 0, none⟩ (h.wish r hr 0 (by omega))
theorem below (h : Trd w n Z tb wb cp pt gn) (hb : Below w.heap.size w w') : Trd w' n Z tb wb cp pt gn :=
  h.of_blocks (fun r hr => hb.block _ (h.lt hr)) (fun r hr => hb.block _ (h.wlt hr))
theorem setCell (h : Trd w n Z tb wb cp pt gn) (a : Addr) (v : Value) (h1 : ∀ r, r < n → tb r ≠ a.block) (h2 : ∀ r, r < n → wb r ≠ a.block) : Trd (w.setCell a v) n Z tb wb cp pt gn :=
  h.of_blocks (fun r hr => Below.heap_setCell _ _ _ _ (h1 r hr)) (fun r hr => Below.heap_setCell _ _ _ _ (h2 r hr))
theorem setPt (h : Trd w n Z tb wb cp pt gn) {i : Nat} (hi : i < n) (x : Option Addr) : Trd (w.setCell ⟨tb i, 2, none⟩ (.pointer x)) n Z tb wb cp (fun r => if r = i then x else pt r) gn := by
  refine ⟨fun r hr => ?_, h.inj, fun r hr k hk => ?_, h.apart⟩
  · by_cases e : r = i
    · subst e
      rw [heap_setCell_same w _ 2 _ _ _ (h.box r hr), if_pos rfl]; rfl
    · rw [if_neg e, Below.heap_setCell _ _ _ _ (fun e' => e (h.inj r i hr hi e'))]; exact h.box r hr
  · rw [World.cell?_of_block (w := w) (a := ⟨wb r, k, none⟩) (Below.heap_setCell _ _ _ _ (h.apart r i hr hi))]; exact h.wish r hr k hk
theorem setGn (h : Trd w n Z tb wb cp pt gn) {i : Nat} (hi : i < n) (x : Bool) : Trd (w.setCell ⟨tb i, 3, none⟩ (.bool x)) n Z tb wb cp pt (fun r => if r = i then x else gn r) := by
  refine ⟨fun r hr => ?_, h.inj, fun r hr k hk => ?_, h.apart⟩
  · by_cases e : r = i
    · subst e
      rw [heap_setCell_same w _ 3 _ _ _ (h.box r hr), if_pos rfl]; rfl
    · rw [if_neg e, Below.heap_setCell _ _ _ _ (fun e' => e (h.inj r i hr hi e'))]; exact h.box r hr
  · rw [World.cell?_of_block (w := w) (a := ⟨wb r, k, none⟩) (Below.heap_setCell _ _ _ _ (h.apart r i hr hi))]; exact h.wish r hr k hk
theorem congr {pt' : Nat → Option Addr} {gn' : Nat → Bool} (h : Trd w n Z tb wb cp pt gn) (e1 : ∀ r, r < n → pt r = pt' r) (e2 : ∀ r, r < n → gn r = gn' r) : Trd w n Z tb wb cp pt' gn' :=
  ⟨fun r hr => by rw [← e1 r hr, ← e2 r hr]; exact h.box r hr, h.inj, h.wish, h.apart⟩
end Trd

/-- Those who are not gone. -/
def stay (n : Nat) (gn : Nat → Bool) (y : Nat) : Bool := decide (y < n) && !gn y
theorem stay_ppl (n : Nat) (gn : Nat → Bool) : Ppl n (stay n gn) := fun y h => by unfold stay at h; simp only [Bool.and_eq_true, decide_eq_true_eq] at h; exact h.1

set_option maxHeartbeats 1600000 in
theorem point_any (n i : Nat) (L : Nat → Nat) (Z : Nat → Nat → Int) (tb wb cp : Nat → Nat) (pt : Nat → Option Addr) (gn : Nat → Bool) (w : World) (hW : IsWishes n L Z) (h : Trd w n Z tb wb cp pt gn) (hi : i < n) (hs : gn i = false) :
    Calls Tryz.prog 91 #[.pointer (some ⟨tb i, 0, none⟩)] w fun e w' => e = .returned (.tuple #[]) ∧ w' = w.setCell ⟨tb i, 2, none⟩ (.pointer (some ⟨tb (ptS Z n (stay n gn) i), 0, none⟩)) := by
  have hn5 := hW.1.2
  have HW := Lib.hid hW
  have HT := Lib.hid h
  have HS := Lib.hid (show stay n gn i = true by unfold stay; rw [hs]; simp [hi])
  have c1 := h.c1 hi
  have c2 := h.c2 hi
  have f2 := h.fz hi 2
  clear hW h hs
  go_enter Tryz.func91, Tryz.ntmps91
  go_wp2
  go_loop [3, 9] (fun _ s => ∃ k : Nat, k ≤ n ∧ s = .int .i64 k ∧ ∀ j, j < k → stay n gn (Z i j).toNat = false) (fun _ s => n - (intOf s).toNat)
  case atStart => exact ⟨0, Nat.zero_le _, rfl, fun j hj => absurd hj (Nat.not_lt_zero _)⟩
  case round =>
    obtain ⟨k, hk, rfl, hno⟩ := hrel
    have HN := Lib.hid hno
    clear hno
    by_cases hlt : k < n
    · have hck := HT.out.wish i hi k hlt
      obtain ⟨y, hy, hyn⟩ : ∃ y : Nat, (Z i k).toNat = y ∧ y < n := by
        have := (HW.out.2 i hi).2.1 k hlt
        exact ⟨_, rfl, by omega⟩
      rw [hy] at hck
      have HY := Lib.hid hy
      clear hy
      have hcy := HT.out.c3 hyn
      by_cases hg : gn y = true
      · rw [hg] at hcy
        have HG := Lib.hid (show stay n gn y = false by unfold stay; rw [hg]; simp)
        clear hg
        go_wp2
        go_round
        case rel => exact ⟨k + 1, by omega, by go_num, fun j hj => by
          by_cases e : j = k
          · subst e; rw [HY.out]; exact HG.out
          · exact HN.out j (by omega)⟩
        case measure => simp [intOf]; omega
      · have hg' : gn y = false := by simpa using hg
        rw [hg'] at hcy
        have HG := Lib.hid (show stay n gn y = true by unfold stay; rw [hg']; simp [hyn])
        clear hg hg'
        have HP := Lib.hid (show ptS Z n (stay n gn) i = y by unfold ptS; rw [ptN_first HN.out (by rw [HY.out]; exact HG.out) hlt, HY.out])
        go_wp2
        exact bodyPost_ret (results_none rfl _ _ _) rfl ⟨rfl, by rw [HP.out]⟩
    · obtain rfl : k = n := by omega
      exfalso
      obtain ⟨j, hj, e⟩ := (HW.out.2 i hi).2.all hi
      have := HN.out j hj
      rw [e, show ((i : Int)).toNat = i by omega, HS.out] at this
      cases this
end Go.Proofs.YtabdbgnkiebcdaaGreatDoor

namespace Go.Proofs.YtabdbgnkiebcdaaGreatDoor
set_option linter.unusedVariables false
set_option linter.unusedSimpArgs false
open Go.RowKit

theorem infoTraderP : (Tryz.prog.info? 111).map (fun i => (i.zero, i.size, i.bytes)) = some (some (.pointer none), 1, 8) := by kernel_rfl
theorem infoTrader : (Tryz.prog.info? 114).map (fun i => i.size) = some 4 := by kernel_rfl

/-- Pointers to people, in a list. -/
def ptrs (tb : Nat → Nat) (l : List Nat) : List Value := l.map fun r => .pointer (some ⟨tb r, 0, none⟩)
/-- A slice of pointers to the people of a list: block b's first cells. -/
def PtrAt (w : World) (b : Nat) (tb : Nat → Nat) (l : List Nat) : Prop := ∀ k, k < l.length → w.cell? ⟨b, k, none⟩ = some (.pointer (some ⟨tb (l.getD k 0), 0, none⟩))
theorem PtrAt.of_block {w w' : World} {b : Nat} {tb : Nat → Nat} {l : List Nat} (h : PtrAt w b tb l) (e : w'.heap[b]? = w.heap[b]?) : PtrAt w' b tb l :=
  fun k hk => (World.cell?_of_block (w := w) (a := ⟨b, k, none⟩) e).trans (h k hk)

/-- The answer to whether two pointers to people part. -/
theorem run_neq_people {w : World} {n : Nat} {Z : Nat → Nat → Int} {tb wb cp : Nat → Nat} {pt : Nat → Option Addr} {gn : Nat → Bool} (h : Trd w n Z tb wb cp pt gn) {r s : Nat} (hr : r < n) (hs : s < n) :
    (binOp .neq 111 (.pointer (some ⟨tb r, 0, none⟩)) (.pointer (some ⟨tb s, 0, none⟩))).run Tryz.prog w = .ok (.bool (decide (r ≠ s))) w := by
  obtain ⟨i0, hi, hz⟩ := Option.map_eq_some_iff.1 infoTrader
  have hz' : i0.size = 4 := hz
  have hsz : i0.size ≠ 0 := by omega
  have hu := Tryz.underlying111
  by_cases e : r = s
  · subst e
    have h1 : ∀ d : Nat, (Op.equalIn (d + 1) 111 (.pointer (some ⟨tb r, 0, none⟩)) (.pointer (some ⟨tb r, 0, none⟩))).run Tryz.prog w = .ok true w := fun d => by
      simp [Op.equalIn, run_underlying hu, sizeOf, typeInfo, hi, run_sameAddr_same]
    simp only [binOp]
    simp [Op.equal, Op.maxDepth, h1 9999]
  · have hne : (⟨tb r, 0, none⟩ : Addr) ≠ ⟨tb s, 0, none⟩ := fun e' => e (h.inj r s hr hs (by simpa using e'))
    have h1 : ∀ d : Nat, (Op.equalIn (d + 1) 111 (.pointer (some ⟨tb r, 0, none⟩)) (.pointer (some ⟨tb s, 0, none⟩))).run Tryz.prog w = .ok false w := fun d => by
      simp [Op.equalIn, run_underlying hu, sizeOf, typeInfo, hi, hsz, run_sameAddr_other w hne (h.box r hr) (h.box s hs)]
    simp only [binOp]
    simp [Op.equal, Op.maxDepth, h1 9999, e]

/-- Do as many steps at most lead back to r? -/
noncomputable def backB (f : Nat → Nat) (m r : Nat) : Bool := tt (∃ k, 1 ≤ k ∧ k ≤ m ∧ it f k r = r)
theorem take_getD {l : List Nat} {k : Nat} (h : k < l.length) : l.take (k + 1) = l.take k ++ [l.getD k 0] := by
  rw [List.take_add_one, List.getElem?_eq_getElem h, List.getD_eq_getElem?_getD, List.getElem?_eq_getElem h]; rfl
theorem getD_mem {l : List Nat} {k : Nat} (h : k < l.length) : l.getD k 0 ∈ l := by
  rw [List.getD_eq_getElem?_getD, List.getElem?_eq_getElem h]; exact List.getElem_mem h
theorem filt_yes {l : List Nat} {k : Nat} {P : Nat → Bool} (h : k < l.length) (hp : P (l.getD k 0) = true) : (l.take (k + 1)).filter P = (l.take k).filter P ++ [l.getD k 0] := by
  rw [take_getD h, List.filter_append]; generalize l.getD k 0 = x at hp ⊢; simp [List.filter_cons, hp]
theorem filt_no {l : List Nat} {k : Nat} {P : Nat → Bool} (h : k < l.length) (hp : P (l.getD k 0) = false) : (l.take (k + 1)).filter P = (l.take k).filter P := by
  rw [take_getD h, List.filter_append]; generalize l.getD k 0 = x at hp ⊢; simp [List.filter_cons, hp]
theorem filt_le (l : List Nat) (k : Nat) (P : Nat → Bool) : ((l.take k).filter P).length ≤ l.length :=
  Nat.le_trans (List.length_filter_le _ _) (by rw [List.length_take]; omega)

/-- What a call hands back: pointers to some people, in a row of its own (or none). -/
def RetPtrs (tb : Nat → Nat) (l : List Nat) (w : World) (e : Ending) (w' : World) : Prop :=
  ∃ v, e = .returned v ∧ w'.ownsRow w.heap.size 111 1 v l.length (ptrs tb l) ∧ Below w.heap.size w w'

set_option maxHeartbeats 1600000 in
theorem onCircles_any (n c lb : Nat) (l : List Nat) (f : Nat → Nat) (Z : Nat → Nat → Int) (tb wb cp : Nat → Nat) (pt : Nat → Option Addr) (gn : Nat → Bool) (w : World) (h0 : Trd w n Z tb wb cp pt gn)
    (hl0 : ∀ r, r ∈ l → r < n ∧ f r ∈ l ∧ pt r = some ⟨tb (f r), 0, none⟩) (hlen : l.length ≤ 5) (hp0 : PtrAt w lb tb l) (hlb : lb < w.heap.size) :
    Calls Tryz.prog 92 #[.slice (some ⟨lb, 0, none⟩) l.length c] w (RetPtrs tb (l.filter (backB f l.length)) w) := by
  obtain ⟨i0, hi, hz0, hz1, hz2⟩ := info_parts infoTraderP
  have HT := Lib.hid h0
  have HL := Lib.hid hl0
  have HP := Lib.hid hp0
  obtain ⟨m, hm⟩ : ∃ m, m = l.length := ⟨_, rfl⟩
  rw [← hm] at hlen ⊢
  have QM := Lib.hid hm
  clear h0 hl0 hp0 hm
  have O0 := Lib.hid (show w.ownsRow w.heap.size 111 1 (.slice none 0 0) 0 (ptrs tb []) from ⟨rfl, .inl ⟨rfl, rfl⟩⟩)
  go_enter Tryz.func92, Tryz.ntmps92
  go_wp2
  go_step3
  go_wp2
  go_step3
  go_wp2
  go_loopg [3, 5, 6, 7, 10] m (fun g fd _ _ _ s wr => ∃ k : Nat, k + g = m ∧ s = .int .i64 k ∧ ∃ (v : Value) (D : List Nat), v = fd ∧ D = (l.take k).filter (backB f m) ∧ wr.ownsRow w.heap.size 111 1 v D.length (ptrs tb D) ∧ Below w.heap.size w wr)
  case atStart => exact ⟨0, by omega, rfl, _, [], rfl, by simp, O0.out, Below.refl _ _⟩
  case round =>
    obtain ⟨k, hkg, rfl, v, D, rfl, hD, hown, hB⟩ := hrel
    have HD := Lib.hid hD
    have HO := Lib.hid hown
    have HB := Lib.hid hB
    have hDl : D.length ≤ 5 := by rw [hD]; exact Nat.le_trans (filt_le _ _ _) (by rw [← QM.out]; exact hlen)
    have hB' := hB.size
    clear hD hown hB O0
    cases gk with
    | zero =>
      obtain rfl : k = m := by omega
      have hx : ¬ ((k : Int) < (k : Int)) := by omega
      go_wp2
      try rw [Exit.noGoto_ret]
      go_ret
      have e1 : D = l.filter (backB f k) := by rw [HD.out, QM.out, List.take_length]
      exact ⟨_, rfl, by rw [← e1]; exact HO.out, HB.out⟩
    | succ g =>
      have hkm : k < l.length := by rw [← QM.out]; omega
      have hkz : (k : Int) < (m : Int) := by omega
      obtain ⟨r, hr⟩ : ∃ r, r = l.getD k 0 := ⟨_, rfl⟩
      have hrl := getD_mem hkm
      rw [← hr] at hrl
      have hck := (HP.out.of_block (HB.out.block lb hlb)) k hkm
      rw [← hr] at hck
      have QR := Lib.hid hr
      have hT := HT.out.below HB.out
      have HTr := Lib.hid hT
      have hrn := (HL.out r hrl).1
      have hcp := hT.c2 hrn
      rw [(HL.out r hrl).2.2] at hcp
      have HRl := Lib.hid hrl
      have HKm := Lib.hid hkm
      clear hr hT hrl hkm
      go_wp2
      obtain ⟨wo, rfl⟩ : ∃ wo : World, wo = wr := ⟨_, rfl⟩
      clear hcp hck
      go_loopg [6, 7] (m - 1) (fun q st nx wi => wi = wo ∧ ∃ j : Nat, 1 ≤ j ∧ j + q = m ∧ st = .int .i64 j ∧ nx = .pointer (some ⟨tb (it f j r), 0, none⟩) ∧ ∀ i, 1 ≤ i → i < j → it f i r ≠ r)
      case atStart => exact ⟨rfl, 1, Nat.le_refl _, by omega, rfl, rfl, fun i h1 h2 => by omega⟩
      case round =>
        obtain ⟨rfl, j, hj1, hjq, rfl, rfl, hno⟩ := hrel
        have HN := Lib.hid hno
        clear hno
        have hjl := it_in (f := f) (P := fun x => x ∈ l) (fun i hi => (HL.out i hi).2.1) HRl.out j
        obtain ⟨x, hx⟩ : ∃ x, x = it f j r := ⟨_, rfl⟩
        rw [← hx] at hjl ⊢
        have hxn := (HL.out x hjl).1
        have hq0 := run_neq_people HTr.out hxn hrn
        by_cases e : x = r
        · have hq : decide (x ≠ r) = false := by simp [e]
          rw [hq] at hq0
          have HY := Lib.hid (show backB f m r = true from tt_of ⟨j, hj1, by omega, by rw [← hx]; exact e⟩)
          clear hq e hx hjl
          go_wp2_with (at_builtin; refine wpList_append_lies _ (by rfl) (.tmp 31) (.tmp 33) 109 (by rfl) w.heap.size 111 i0 (.pointer none) 1 8 Tryz.underlying109 hi hz0 hz1 hz2 (by rfl) (by decide) v D.length (ptrs tb D) (by rfl) (HO.out.alloc _) ⟨_, 0, none⟩ 1 1 [.pointer (some ⟨tb r, 0, none⟩)] (by rfl) (by rfl) (news_one (by simp)) (by simp [Value.oneCell']) (by omega) (by unfold maxLen; omega) (by omega) (by simp; omega) _ rfl ?_; intro g2 cap2 w2 hown2 hgrow2 hat2 hlt2; have N2 := Lib.hid hown2; have G2 := Lib.hid hgrow2; clear hown2 hgrow2 hat2)
          clear hq0
          go_roundg g
          case measure => omega
          case rel =>
            refine ⟨k + 1, by omega, by go_num, _, D ++ [r], rfl, ?_, ?_, (HB.out.alloc hB' _).grown G2.out (by simp; omega) (fun k hk => (HO.out.lt k hk).1)⟩
            · rw [HD.out, filt_yes HKm.out (by rw [← QR.out]; exact HY.out), ← QR.out]
            · have := N2.out
              rw [List.length_append, List.length_singleton]
              unfold ptrs
              rw [List.map_append]
              exact this
        · have hq : decide (x ≠ r) = true := by simp [e]
          rw [hq] at hq0
          have HE := Lib.hid (show it f j r ≠ r by rw [← hx]; exact e)
          clear hq e
          by_cases hjm : j = m
          · have hd2 : ((j : Int) == (m : Int)) = true := by simp [hjm]
            have HY := Lib.hid (show backB f m r = false from tt_no (fun ⟨i, h1, h2, h3⟩ => by
              by_cases e' : i = j
              · subst e'; exact HE.out h3
              · exact HN.out i h1 (by omega) h3))
            have hxl := hjl
            clear hx hjl hjm
            go_wp2
            clear hq0
            go_roundg g
            case measure => omega
            case rel =>
              refine ⟨k + 1, by omega, by go_num, _, D, rfl, ?_, HO.out, HB.out⟩
              rw [HD.out, filt_no HKm.out (by rw [← QR.out]; exact HY.out)]
          · have hd2 : ((j : Int) == (m : Int)) = false := by simp; omega
            have hcx := HTr.out.c2 hxn
            rw [(HL.out x hjl).2.2] at hcx
            have HX := Lib.hid hx
            clear hx hjl
            cases gk with
            | zero => omega
            | succ q =>
              go_wp2
              clear hq0 hcx
              go_roundg q
              case measure => omega
              case rel => exact ⟨rfl, j + 1, by omega, by omega, by go_num, by rw [HX.out]; rfl, fun i h1 h2 => by
                by_cases e' : i = j
                · subst e'; exact HE.out
                · exact HN.out i h1 (by omega)⟩
end Go.Proofs.YtabdbgnkiebcdaaGreatDoor
